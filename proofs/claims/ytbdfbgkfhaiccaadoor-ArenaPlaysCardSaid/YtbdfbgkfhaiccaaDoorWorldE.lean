/-
  The law's world's alloc, in both pools.
-/
import Derived.Test.YtbdfbgkfhaiccaaDoorWorldD
namespace Go.Proofs.YtbdfbgkfhaiccaaDoor
open Go.RowKit Go.Maps
set_option linter.unusedVariables false
section
variable {w0 wr wr' : World} {n xb pb gb fb : Nat} {ab mb : Nat → Nat} {qb lb cap : Nat} {vt : Value} {G : List Nat} {fr : Nat → Bool} {MM : Nat → Nat → Option (Nat × Value)} {nn : Nat → Nat} {ff : Nat → Int → Option Value} {L : List Sl} {hs : List (Nat × Nat)}
/-- The first free slot. -/
def ffree (L : List Sl) : Option (Nat × Sl) := match L.findIdx? (fun q => q.who == 0) with | some s => (L[s]?).map fun q => (s, q) | none => none
theorem ffree_some {s : Nat} {q : Sl} (h : ffree L = some (s, q)) : L[s]? = some q ∧ q.who = 0 ∧ ∀ y, y < s → dfr L y = false := by
  unfold ffree at h
  split at h
  · rename_i s' hs'
    rw [Option.map_eq_some_iff] at h
    obtain ⟨q', hq, e⟩ := h
    injection e with e1 e2
    subst e1 e2
    obtain ⟨hlt, hp, hmin⟩ := List.findIdx?_eq_some_iff_getElem.1 hs'
    have hq2 : L[s'] = q' := (List.getElem?_eq_some_iff.1 hq).2
    refine ⟨hq, by rw [hq2] at hp; simpa using hp, fun y hy => ?_⟩
    have := hmin y hy
    unfold dfr
    rw [List.getElem?_eq_getElem (by omega)]
    simpa using this
  · cases h
theorem ffree_none (h : ffree L = none) : ∀ y, dfr L y = false := by
  unfold ffree at h
  split at h
  · rename_i s' hs'
    obtain ⟨hlt, _⟩ := List.findIdx?_eq_some_iff_getElem.1 hs'
    rw [List.getElem?_eq_getElem hlt] at h
    cases h
  · rename_i hs'
    rw [List.findIdx?_eq_none_iff] at hs'
    intro y
    unfold dfr
    cases hq : L[y]? with
    | none => rfl
    | some q => exact hs' q (List.mem_of_getElem? hq)

theorem WSt.alloc_half (h : WSt w0 wr n xb pb gb fb ab mb qb lb cap vt G fr MM nn ff L hs) (hT : Tab w0) {i : Nat} (h1 : 1 ≤ i) (h3 : i ≤ 3) (hn : n ≤ 4096) {s : Nat} {q : Sl} (hq : L[s]? = some q) (h0 : q.who = 0) (hmin : ∀ y, y < s → dfr L y = false) (x : ByteArray) :
    Calls Tryd.prog 41 #[.pointer (some ⟨xb, 0, none⟩), .int .i64 (i : Int), .string x] wr fun e w1 => e = .returned (.tuple #[.agg #[.int .i64 (s : Int), .int .u64 (q.g : Int)], .int .i64 0]) ∧
      ∃ v pq, (i ≠ 2 → v = .string x) ∧ (i = 2 → Txt w0 w1 v x) ∧ wr.heap.size ≤ pq ∧ Half wr w1 pb gb fb (ab i) (mb i) (i = 2) G (fun y => fr y && y != s) (updM (MM i) s (some (q.g, v))) (nn i + 1) (put (ff i) (s : Int) (.pointer (some ⟨pq, 0, none⟩))) := by
  obtain ⟨c1, c2, c3, lx⟩ := h.dcell
  have hTr : Tab wr := hT.turn h.old (fun h => h) hT.pos
  have hold := h.old.size
  have hg : G.getD s 0 = q.g := h.pv.gen s q hq
  have hM : MM i s = none := h.pv.none_who h1 h3 hq (by omega)
  have hfs : fr s = true := by rw [h.pv.free, isOf_at hq, h0]; rfl
  have hfm : ∀ y, y < s → fr y = false := fun y hy => by rw [h.pv.free, isOf_zero]; exact hmin y hy
  have hle := h.pv.le h1 h3
  have hpool : ∀ W, Turn (fun _ => False) wr W → Pool W pb gb fb G fr := fun W t => h.pool.turn t (fun h => h) (fun h => h) (fun h => h)
  have t0 : Turn (fun _ => False) wr (wr.alloc (.cells #[.int .i64 0, .int .u64 0] 32)) := (Turn.refl _ wr).alloc _
  have b0 := At.new wr (.cells #[.int .i64 0, .int .u64 0] 32)
  have hB : ∀ {W W' : World} {m : Nat}, At W wr.heap.size (.cells #[.int .i64 0, .int .u64 0] 32 (0, 0)) → Pool W pb gb fb G fr → (∃ es cl, At W m (.map es cl)) → Turn (fun k => k = fb ∨ k = m) W W' → At W' wr.heap.size (.cells #[.int .i64 0, .int .u64 0] 32 (0, 0)) := fun {W W' m} hb hp hm t => by
    obtain ⟨_, ⟨c2, p2⟩, _⟩ := hp.rows
    obtain ⟨es, cl, hm⟩ := hm
    refine hb.turn t (fun e => ?_)
    rcases e with e | e
    · subst e
      have := hb.eq p2
      injection this with _ this _
      cases this
    · subst e
      cases hb.eq hm
  have three : ∀ j, (j = 1 ∨ j = 3) → i = j → Calls Tryd.prog 11 #[.pointer (some ⟨ab j, 0, none⟩), .string x] (wr.alloc (.cells #[.int .i64 0, .int .u64 0] 32)) fun e w' => e = .returned (.tuple #[.agg #[.int .i64 (s : Int), .int .u64 (q.g : Int)], .int .i64 0]) ∧ Kind w' wr.heap.size 32 ∧ (∃ u v, At w' wr.heap.size (.cells #[u, v] 32 (0, 0))) ∧
      (Kind w' wr.heap.size 32 ∧ Pool w' pb gb fb G (fun y => fr y && y != s) ∧ (∃ pq, wr.heap.size ≤ pq ∧ ArF 89 97 w' (ab j) (mb j) (.pointer (some ⟨pb, 0, none⟩)) (updM (MM j) s (some (q.g, .string x))) (nn j + 1) (put (ff j) (s : Int) (.pointer (some ⟨pq, 0, none⟩)))) ∧ Turn (fun k => k = fb ∨ k = mb j) wr w') := fun j hj hij => by
    subst hij
    have ha := (h.a i hj).same t0
    have := allocS_F x ha (hpool _ t0) (hTr.turn t0 (fun h => h) hTr.pos) hfs hfm hM (by omega)
    rw [hg] at this
    refine this.mono fun e w' ⟨he, p1, ⟨pq, l1, p2⟩, t1⟩ => ?_
    have hb := hB b0 (hpool _ t0) ha.2.1.obj t1
    have l2 : wr.heap.size ≤ pq := Nat.le_trans t0.size l1
    exact ⟨he, ⟨_, hb⟩, ⟨_, _, hb⟩, ⟨_, hb⟩, p1, ⟨pq, l2, p2⟩, (t0.mono fun _ _ h => h.elim).trans t1⟩
  have fin3 : ∀ j, (j = 1 ∨ j = 3) → i = j → ∀ (e : Ending) (w' : World), (e = .returned (.tuple #[.agg #[.int .i64 (s : Int), .int .u64 (q.g : Int)], .int .i64 0]) ∧ ∃ w3, (Kind w3 wr.heap.size 32 ∧ Pool w3 pb gb fb G (fun y => fr y && y != s) ∧ (∃ pq, wr.heap.size ≤ pq ∧ ArF 89 97 w3 (ab j) (mb j) (.pointer (some ⟨pb, 0, none⟩)) (updM (MM j) s (some (q.g, .string x))) (nn j + 1) (put (ff j) (s : Int) (.pointer (some ⟨pq, 0, none⟩)))) ∧ Turn (fun k => k = fb ∨ k = mb j) wr w3) ∧ Turn (· = wr.heap.size) w3 w') →
      e = .returned (.tuple #[.agg #[.int .i64 (s : Int), .int .u64 (q.g : Int)], .int .i64 0]) ∧ ∃ v pq, (i ≠ 2 → v = .string x) ∧ (i = 2 → Txt w0 w' v x) ∧ wr.heap.size ≤ pq ∧ Half wr w' pb gb fb (ab i) (mb i) (i = 2) G (fun y => fr y && y != s) (updM (MM i) s (some (q.g, v))) (nn i + 1) (put (ff i) (s : Int) (.pointer (some ⟨pq, 0, none⟩))) := fun j hj hij e w' ⟨he, w3, ⟨hk, p1, ⟨pq, l1, p2⟩, t1⟩, t2⟩ => by
    subst hij
    refine ⟨he, .string x, pq, fun _ => rfl, fun e => by omega, l1, p1.off t2 (hk.off _ (by decide) 0), fun _ => p2.off t2 (hk.off _ (by decide) _), fun e => by omega, ?_⟩
    exact (t1.mono fun k _ hk => by rcases hk with e | e <;> simp [e]).then t2 (fun k hk e => by omega)
  rcases (show i = 1 ∨ i = 2 ∨ i = 3 by omega) with e | e | e
  · have hw := walloc_1 c1 lx x (s : Int) q.g 0 (three 1 (Or.inl rfl) e)
    rw [e] at fin3 ⊢
    exact hw.mono (fin3 1 (Or.inl rfl) rfl)
  · subst e
    have t00 : Turn (fun _ => False) wr ((wr.alloc (.cells #[.int .i64 0, .int .u64 0] 32)).alloc (.cells #[.string x] 9)) := t0.alloc _
    have b00 : At ((wr.alloc (.cells #[.int .i64 0, .int .u64 0] 32)).alloc (.cells #[.string x] 9)) wr.heap.size (.cells #[.int .i64 0, .int .u64 0] 32 (0, 0)) := b0.turn ((Turn.refl (fun _ => False) _).alloc _) (fun h => h)
    have bt := At.new (wr.alloc (.cells #[.int .i64 0, .int .u64 0] 32)) (.cells #[.string x] 9)
    rw [show (wr.alloc (.cells #[.int .i64 0, .int .u64 0] 32)).heap.size = wr.heap.size + 1 by simp] at bt
    have ha := h.b.same t00
    have hw := walloc_2 c3 lx x (s : Int) q.g 0 (Q := fun w' => Kind w' wr.heap.size 32 ∧ At w' (wr.heap.size + 1) (.cells #[.string x] 9 (0, 0)) ∧ Pool w' pb gb fb G (fun y => fr y && y != s) ∧ (∃ pq, wr.heap.size ≤ pq ∧ ArF 113 134 w' (ab 2) (mb 2) (.pointer (some ⟨pb, 0, none⟩)) (updM (MM 2) s (some (q.g, .slice (some ⟨wr.heap.size + 1, 0, none⟩) 1 1))) (nn 2 + 1) (put (ff 2) (s : Int) (.pointer (some ⟨pq, 0, none⟩)))) ∧ Turn (fun k => k = fb ∨ k = mb 2) wr w') (by
      have := allocT_F (some ⟨wr.heap.size + 1, 0, none⟩) 1 1 ha (hpool _ t00) (hTr.turn t00 (fun h => h) hTr.pos) hfs hfm hM (by omega)
      rw [hg] at this
      refine this.mono fun e w' ⟨he, p1, ⟨pq, l1, p2⟩, t1⟩ => ?_
      have hb := hB b00 (hpool _ t00) ha.2.1.obj t1
      have l2 : wr.heap.size ≤ pq := Nat.le_trans t00.size l1
      have hbt : At w' (wr.heap.size + 1) (.cells #[.string x] 9 (0, 0)) := by
        obtain ⟨_, ⟨c2, p2⟩, _⟩ := (hpool _ t00).rows
        obtain ⟨es, cl, hm⟩ := ha.2.1.obj
        refine bt.turn t1 (fun e => ?_)
        rcases e with e | e
        · rw [← e] at p2
          have := bt.eq p2
          injection this with _ this _
          cases this
        · rw [← e] at hm
          cases bt.eq hm
      exact ⟨he, ⟨_, hb⟩, ⟨_, _, hb⟩, ⟨_, hb⟩, hbt, p1, ⟨pq, l2, p2⟩, (t00.mono fun _ _ h => h.elim).trans t1⟩)
    refine hw.mono fun e w' ⟨he, w3, ⟨hk, htx, p1, ⟨pq, l1, p2⟩, t1⟩, t2⟩ => ⟨he, _, pq, fun e => absurd rfl e, fun _ => ⟨_, rfl, htx.turn t2 (by omega), by omega⟩, l1, p1.off t2 (hk.off _ (by decide) 0), fun e => absurd rfl e, fun _ => p2.off t2 (hk.off _ (by decide) _), ?_⟩
    exact (t1.mono fun k _ hk => by rcases hk with e | e <;> simp [e]).then t2 (fun k hk e => by omega)
  · have hw := walloc_3 c2 lx x (s : Int) q.g 0 (three 3 (Or.inr rfl) e)
    rw [e] at fin3 ⊢
    exact hw.mono (fin3 3 (Or.inr rfl) rfl)

theorem WSt.alloc_full (h : WSt w0 wr n xb pb gb fb ab mb qb lb cap vt G fr MM nn ff L hs) {i : Nat} (h1 : 1 ≤ i) (h3 : i ≤ 3) (hf : ∀ y, dfr L y = false) (x : ByteArray) :
    Calls Tryd.prog 41 #[.pointer (some ⟨xb, 0, none⟩), .int .i64 (i : Int), .string x] wr fun e w1 => e = .returned (.tuple #[.agg #[.int .i64 0, .int .u64 0], .int .i64 5]) ∧ Turn (fun _ => False) wr w1 := by
  obtain ⟨c1, c2, c3, lx⟩ := h.dcell
  have hfr : ∀ y, fr y = false := fun y => by rw [h.pv.free, isOf_zero]; exact hf y
  have hpool : ∀ W, Turn (fun _ => False) wr W → Pool W pb gb fb G fr := fun W t => h.pool.turn t (fun h => h) (fun h => h) (fun h => h)
  have t0 : Turn (fun _ => False) wr (wr.alloc (.cells #[.int .i64 0, .int .u64 0] 32)) := (Turn.refl _ wr).alloc _
  have b0 := At.new wr (.cells #[.int .i64 0, .int .u64 0] 32)
  have t00 : Turn (fun _ => False) wr ((wr.alloc (.cells #[.int .i64 0, .int .u64 0] 32)).alloc (.cells #[.string x] 9)) := t0.alloc _
  have b00 : At ((wr.alloc (.cells #[.int .i64 0, .int .u64 0] 32)).alloc (.cells #[.string x] 9)) wr.heap.size (.cells #[.int .i64 0, .int .u64 0] 32 (0, 0)) := b0.turn ((Turn.refl (fun _ => False) _).alloc _) (fun h => h)
  have three : ∀ j, (j = 1 ∨ j = 3) → Calls Tryd.prog 11 #[.pointer (some ⟨ab j, 0, none⟩), .string x] (wr.alloc (.cells #[.int .i64 0, .int .u64 0] 32)) fun e w' => e = .returned (.tuple #[.agg #[.int .i64 0, .int .u64 ((0 : Nat) : Int)], .int .i64 5]) ∧ Kind w' wr.heap.size 32 ∧ (∃ u v, At w' wr.heap.size (.cells #[u, v] 32 (0, 0))) ∧ Turn (fun _ => False) wr w' := fun j hj =>
    (allocS_full x ⟨_, (h.a j hj).same t0⟩ (hpool _ t0) hfr).mono fun e w' ⟨he, t1⟩ => by
      have hb := b0.turn t1 (fun h => h)
      exact ⟨he, ⟨_, hb⟩, ⟨_, _, hb⟩, t0.trans t1⟩
  rcases (show i = 1 ∨ i = 2 ∨ i = 3 by omega) with e | e | e <;> subst e
  · exact (walloc_1 c1 lx x 0 0 5 (three 1 (Or.inl rfl))).mono fun e w' ⟨he, w3, t1, t2⟩ => ⟨he, t1.then t2 (fun k hk e => by omega)⟩
  · refine (walloc_2 c3 lx x 0 0 5 (Q := Turn (fun _ => False) wr) ((allocT_full (some ⟨wr.heap.size + 1, 0, none⟩) 1 1 ⟨_, h.b.same t00⟩ (hpool _ t00) hfr).mono fun e w' ⟨he, t1⟩ => ?_)).mono fun e w' ⟨he, w3, t1, t2⟩ => ⟨he, t1.then t2 (fun k hk e => by omega)⟩
    have hb := b00.turn t1 (fun h => h)
    exact ⟨he, ⟨_, hb⟩, ⟨_, _, hb⟩, t00.trans t1⟩
  · exact (walloc_3 c2 lx x 0 0 5 (three 3 (Or.inr rfl))).mono fun e w' ⟨he, w3, t1, t2⟩ => ⟨he, t1.then t2 (fun k hk e => by omega)⟩

/-- What Alloc tells, and the slots behind it. -/
def ares (L : List Sl) : Value := match ffree L with | some p => .agg #[.int .i64 (p.1 : Int), .int .u64 (p.2.g : Int)] | none => .agg #[.int .i64 0, .int .u64 0]
def aerr (L : List Sl) : Int := match ffree L with | some _ => 0 | none => 5
def putL (L : List Sl) (i : Nat) (x : ByteArray) : List Sl := match ffree L with | some p => L.set p.1 ⟨p.2.g, i, x⟩ | none => L
theorem WS.alloc (h : WS w0 wr n xb pb gb fb ab mb qb lb cap vt L hs) (hT : Tab w0) (hn : n ≤ 4096) {i : Nat} (h1 : 1 ≤ i) (h3 : i ≤ 3) (x : ByteArray) :
    Calls Tryd.prog 41 #[.pointer (some ⟨xb, 0, none⟩), .int .i64 (i : Int), .string x] wr fun e w1 => e = .returned (.tuple #[ares L, .int .i64 (aerr L)]) ∧ w1.cell? ⟨xb, 4, none⟩ = some (.pointer (some ⟨qb, 0, none⟩)) ∧ xb < w1.heap.size ∧ Keeps wr w1 ∧
      ∀ W, Turn (fun _ => False) w1 W → Calls Tryd.prog 42 #[.pointer (some ⟨qb, 0, none⟩), .int .i64 (i : Int), .string x] W fun e w2 => e = .returned (.tuple #[ares L, .int .i64 (aerr L)]) ∧ Keeps W w2 ∧ WS w0 w2 n xb pb gb fb ab mb qb lb cap vt (putL L i x) hs := by
  obtain ⟨G, fr, MM, nn, ff, h⟩ := h
  unfold ares aerr putL
  cases hf : ffree L with
  | none =>
    have hfn := ffree_none hf
    refine (h.alloc_full h1 h3 hfn x).mono fun e w1 ⟨he, t1⟩ => ⟨he, by rw [(h.same t1).hd.cell]; rfl, (h.same t1).hd.lt, Keeps.same t1, fun W t => ?_⟩
    exact (dalloc_full (h.same (t1.trans t)).doc i x hfn).mono fun e w2 ⟨he2, t2⟩ => ⟨he2, Keeps.same t2, G, fr, MM, nn, ff, (h.same (t1.trans t)).same t2⟩
  | some p =>
    obtain ⟨s, q⟩ := p
    obtain ⟨hq, h0, hmin⟩ := ffree_some hf
    refine (h.alloc_half hT h1 h3 hn hq h0 hmin x).mono fun e w1 ⟨he, v, pq, hv, ht, hl, hh⟩ => ⟨he, ?_, ?_, Keeps.off hh.t_ (h.offs3 h1 h3 _ (by decide) (m := mb i + 1) (by omega)), fun W t => ?_⟩
    · rw [(h.hd.turn hh.t_ ((h.offs3 h1 h3 [60] (by decide) (m := mb i + 1) (by omega)).row ⟨_, h.hd⟩ (by simp))).cell]; rfl
    · exact (h.hd.turn hh.t_ ((h.offs3 h1 h3 [60] (by decide) (m := mb i + 1) (by omega)).row ⟨_, h.hd⟩ (by simp))).lt
    · have hh' := hh.same t
      have hd := h.half_doc h1 h3 hh'.t_
      refine (dalloc_some hd i x h3 s q hq h0 hmin).mono fun e w2 ⟨he2, hd2, t2⟩ => ⟨he2, Keeps.off t2 (hd.offlb _ (by decide) 0), ?_⟩
      obtain ⟨p1, p2, p3, p4⟩ := hh'.doc_ hd t2
      refine ⟨_, _, _, _, _, h.putted hq h0 h1 h3 x v pq p1 p2 p3 hv (fun e => ?_) hl hd2 p4⟩
      obtain ⟨tb, e1, e2, e3⟩ := ht e
      exact ⟨tb, e1, (e2.turn t (fun h => h)).turn t2 ((hd.offlb [9] (by decide) 0).row ⟨_, e2.turn t (fun h => h)⟩ (by simp)), e3⟩
end
end Go.Proofs.YtbdfbgkfhaiccaaDoor
