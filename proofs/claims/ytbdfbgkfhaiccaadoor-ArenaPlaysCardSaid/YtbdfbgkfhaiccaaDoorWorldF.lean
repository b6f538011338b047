/-
  The law's world's write, in both pools.
-/
import Derived.Test.YtbdfbgkfhaiccaaDoorWorldE
import Derived.Test.YtbdfbgkfhaiccaaDoorWWorldW
namespace Go.Proofs.YtbdfbgkfhaiccaaDoor
open Go.RowKit Go.Maps
set_option linter.unusedVariables false

theorem Doc.text {wr : World} {qb lb cap : Nat} {L : List Sl} (h : Doc wr qb lb cap L) {k : Nat} {q : Sl} (hk : L[k]? = some q) (x : ByteArray) :
    Doc (wr.setCell ⟨lb, k * 3 + 2, none⟩ (.string x)) qb lb cap (L.set k ⟨q.g, q.who, x⟩) ∧ Turn (· = lb) wr (wr.setCell ⟨lb, k * 3 + 2, none⟩ (.string x)) := by
  have hkl : k < L.length := (List.getElem?_eq_some_iff.1 hk).1
  obtain ⟨c, hc, r⟩ := h.row
  have t : Turn (· = lb) wr (wr.setCell ⟨lb, k * 3 + 2, none⟩ (.string x)) := (Turn.refl (fun i => i = lb) wr).setCell (p := ⟨lb, k * 3 + 2, none⟩) (Or.inl rfl) _
  refine ⟨⟨?_, ⟨_, hc.set _ _, ?_⟩, by rw [List.length_set]; exact h.le, ?_⟩, t⟩
  · rw [List.length_set]; exact h.hd.turn t h.ne
  · have hf := flat3_at L k q hk
    have hsz : k * 3 + 2 < c.size := (Array.getElem?_eq_some_iff.1 (r _ _ hf.2.2)).1
    intro j u hu
    rw [flat3_set L k _ hkl] at hu
    simp only [Array.getElem?_setIfInBounds, List.getElem?_set, List.length_set, flat3_len] at hu ⊢
    by_cases e2 : k * 3 + 2 = j
    · subst e2
      rw [if_pos rfl, if_pos (by omega)] at hu
      rw [if_pos rfl, if_pos hsz]; exact hu
    · rw [if_neg e2] at hu ⊢
      by_cases e1 : k * 3 + 1 = j
      · subst e1
        rw [if_pos rfl, if_pos (by omega)] at hu
        exact r _ _ (hf.2.1.trans hu)
      · rw [if_neg e1] at hu
        by_cases e0 : k * 3 = j
        · subst e0
          rw [if_pos rfl, if_pos (by omega)] at hu
          exact r _ _ (hf.1.trans hu)
        · rw [if_neg e0] at hu
          exact r _ _ hu
  · intro s hs
    rcases List.mem_or_eq_of_mem_set hs with h' | h'
    · exact h.each s h'
    · subst h'; exact h.each q (List.mem_of_getElem? hk)

section
variable {w : World} {ab mb n : Nat} {pp : Value} {M : Nat → Option (Nat × Value)} {f : Int → Option Value}
theorem agetS_any (h : ArF 89 97 w ab mb pp M n f) (s : Int) (g : Nat) (hb : -9223372036854775808 ≤ s ∧ s < 9223372036854775808) :
    ∃ p b, ∀ W, Turn (fun _ => False) w W → Calls Tryd.prog 15 #[.pointer (some ⟨ab, 0, none⟩), .agg #[.int .i64 s, .int .u64 (g : Int)]] W fun e w' => e = .returned (.tuple #[p, .bool b]) ∧ Turn (fun _ => False) W w' := by
  by_cases hd : Dead M s g
  · exact ⟨_, _, fun W t => agetS_no (h.same t) s g hb hd⟩
  · unfold Dead at hd
    have h0 : ¬ s < 0 := fun e => hd (Or.inl e)
    obtain ⟨x, rfl⟩ : ∃ x : Nat, s = (x : Int) := ⟨s.toNat, by omega⟩
    cases hM : M x with
    | none => exact absurd (Or.inr ⟨x, rfl, Or.inl hM⟩) hd
    | some gv =>
      obtain ⟨g', v⟩ := gv
      by_cases hg : g' = g
      · subst hg
        obtain ⟨q, hf, hA⟩ := h.place hM
        exact ⟨_, _, fun W t => getS_F (h.same t) x g' q v (by omega) hf (hA.turn t (fun h => h))⟩
      · exact absurd (Or.inr ⟨x, rfl, Or.inr ⟨g', v, hM, hg⟩⟩) hd
theorem agetT_any (h : ArF 113 134 w ab mb pp M n f) (s : Int) (g : Nat) (hb : -9223372036854775808 ≤ s ∧ s < 9223372036854775808) :
    ∃ p b, ∀ W, Turn (fun _ => False) w W → Calls Tryd.prog 59 #[.pointer (some ⟨ab, 0, none⟩), .agg #[.int .i64 s, .int .u64 (g : Int)]] W fun e w' => e = .returned (.tuple #[p, .bool b]) ∧ Turn (fun _ => False) W w' := by
  by_cases hd : Dead M s g
  · exact ⟨_, _, fun W t => agetT_no (h.same t) s g hb hd⟩
  · unfold Dead at hd
    have h0 : ¬ s < 0 := fun e => hd (Or.inl e)
    obtain ⟨x, rfl⟩ : ∃ x : Nat, s = (x : Int) := ⟨s.toNat, by omega⟩
    cases hM : M x with
    | none => exact absurd (Or.inr ⟨x, rfl, Or.inl hM⟩) hd
    | some gv =>
      obtain ⟨g', v⟩ := gv
      by_cases hg : g' = g
      · subst hg
        obtain ⟨q, hf, hA⟩ := h.place hM
        exact ⟨_, _, fun W t => getT_F (h.same t) x g' q v (by omega) hf (hA.turn t (fun h => h))⟩
      · exact absurd (Or.inr ⟨x, rfl, Or.inr ⟨g', v, hM, hg⟩⟩) hd
end

section
variable {w0 wr wr' w1 w2 : World} {n xb pb gb fb : Nat} {ab mb : Nat → Nat} {qb lb cap : Nat} {vt : Value} {G : List Nat} {fr : Nat → Bool} {MM : Nat → Nat → Option (Nat × Value)} {nn : Nat → Nat} {ff : Nat → Int → Option Value} {L : List Sl} {hs : List (Nat × Nat)}
theorem WSt.write_no (h : WSt w0 wr n xb pb gb fb ab mb qb lb cap vt G fr MM nn ff L hs) {i : Nat} (h1 : 1 ≤ i) (h3 : i ≤ 3) (s : Int) (hb : -9223372036854775808 ≤ s ∧ s < 9223372036854775808) (g : Nat) (x : ByteArray) (ha : alv L i s g = none) :
    Calls Tryd.prog 45 #[.pointer (some ⟨xb, 0, none⟩), .int .i64 (i : Int), .agg #[.int .i64 s, .int .u64 (g : Int)], .string x] wr fun e w' => e = .returned (.tuple #[]) ∧ Turn (fun _ => False) wr w' := by
  have hd : Dead (MM i) s g := h.pv.dead h1 h3 ha
  obtain ⟨p1, b1, G1⟩ := agetS_any (h.a 1 (Or.inl rfl)) s g hb
  obtain ⟨p2, b2, G2⟩ := agetT_any h.b s g hb
  obtain ⟨p3, b3, G3⟩ := agetS_any (h.a 3 (Or.inr rfl)) s g hb
  rcases (show i = 1 ∨ i = 2 ∨ i = 3 by omega) with rfl | rfl | rfl
  · exact wwrite_1_no h.hd s g x (.pointer none) p2 b2 p3 b3 (fun W t => agetS_no ((h.a 1 (Or.inl rfl)).same t) s g hb hd) G2 G3
  · exact wwrite_2_no h.hd s g x p1 b1 (.pointer none) p3 b3 G1 (fun W t => agetT_no (h.b.same t) s g hb hd) G3
  · exact wwrite_3_no h.hd s g x p1 b1 p2 b2 (.pointer none) G1 G2 (fun W t => agetS_no ((h.a 3 (Or.inr rfl)).same t) s g hb hd)

/-- A thing has been written in its arena, and not yet in the document's slots. -/
structure HalfW (w0 wr w1 : World) (i : Nat) (f : Int → Option Value) (k : Nat) (q : Sl) (x : ByteArray) (v' : Value) (pq : Nat) : Prop where
  at_ : At w1 pq (.cells #[.int .u64 (q.g : Int), v'] (if i = 2 then 134 else 97) (0, 0))
  val : i ≠ 2 → v' = .string x
  txt : i = 2 → Txt w0 w1 v' x
  f_ : f (k : Int) = some (.pointer (some ⟨pq, 0, none⟩))
  t_ : Turn (· = pq) wr w1
theorem HalfW.same {W : World} {i : Nat} {f : Int → Option Value} {k : Nat} {q : Sl} {x : ByteArray} {v' : Value} {pq : Nat} (h : HalfW w0 wr w1 i f k q x v' pq) (t : Turn (fun _ => False) w1 W) : HalfW w0 wr W i f k q x v' pq :=
  ⟨h.at_.turn t (fun h => h), h.val, fun e => by obtain ⟨tb, e1, e2, e3⟩ := h.txt e; exact ⟨tb, e1, e2.turn t (fun h => h), e3⟩, h.f_, h.t_.trans (t.mono fun _ _ h => h.elim)⟩
theorem WSt.kindP (h : WSt w0 wr n xb pb gb fb ab mb qb lb cap vt G fr MM nn ff L hs) {i : Nat} (h1 : 1 ≤ i) (h3 : i ≤ 3) {y : Int} {v : Value} (hv : ff i y = some v) : ∃ q, v = .pointer (some ⟨q, 0, none⟩) ∧ Kind wr q (if i = 2 then 134 else 97) := by
  rcases (show i = 1 ∨ i = 2 ∨ i = 3 by omega) with e | e | e <;> subst e
  · obtain ⟨q, e, _, c, hc⟩ := (h.a 1 (Or.inl rfl)).old hv
    exact ⟨q, e, c, hc⟩
  · obtain ⟨q, e, _, c, hc⟩ := h.b.old hv
    exact ⟨q, e, c, hc⟩
  · obtain ⟨q, e, _, c, hc⟩ := (h.a 3 (Or.inr rfl)).old hv
    exact ⟨q, e, c, hc⟩
/-- The arenas whose thing it is not. -/
theorem WSt.others (h : WSt w0 wr n xb pb gb fb ab mb qb lb cap vt G fr MM nn ff L hs) {i : Nat} (h1 : 1 ≤ i) (h3 : i ≤ 3) {y : Int} {pq : Nat} (hf : ff i y = some (.pointer (some ⟨pq, 0, none⟩))) (t : Turn (· = pq) wr w1) :
    (∀ j, (j = 1 ∨ j = 3) → j ≠ i → ArF 89 97 w1 (ab j) (mb j) (.pointer (some ⟨pb, 0, none⟩)) (MM j) (nn j) (ff j)) ∧ (2 ≠ i → ArF 113 134 w1 (ab 2) (mb 2) (.pointer (some ⟨pb, 0, none⟩)) (MM 2) (nn 2) (ff 2)) := by
  obtain ⟨q', e, hk⟩ := h.kindP h1 h3 hf
  injection e with e; injection e with e; injection e with e
  subst e
  refine ⟨fun j hj hne => ?_, fun hne => ?_⟩
  · by_cases e2 : i = 2
    · rw [if_pos e2] at hk
      exact (h.a j hj).off t (hk.off _ (by decide) _)
    · rw [if_neg e2] at hk
      obtain ⟨c, hc⟩ := hk
      refine (h.a j hj).apart (by decide) hc (fun z hz => ?_) t
      rcases hj with e | e <;> subst e
      · have : i = 3 := by omega
        subst this
        exact h.sep z y _ hz hf
      · have : i = 1 := by omega
        subst this
        exact h.sep y z _ hf hz
  · rw [if_neg (Ne.symm hne)] at hk
    exact h.b.off t (hk.off _ (by decide) _)

theorem WSt.write_half (h : WSt w0 wr n xb pb gb fb ab mb qb lb cap vt G fr MM nn ff L hs) {i : Nat} (h1 : 1 ≤ i) (h3 : i ≤ 3) {k : Nat} {q : Sl} (hq : L[k]? = some q) (hw : q.who = i) (x : ByteArray) :
    Calls Tryd.prog 45 #[.pointer (some ⟨xb, 0, none⟩), .int .i64 (i : Int), .agg #[.int .i64 (k : Int), .int .u64 (q.g : Int)], .string x] wr fun e w1 => e = .returned (.tuple #[]) ∧ ∃ v' pq, HalfW w0 wr w1 i (ff i) k q x v' pq := by
  obtain ⟨v, hM, hv⟩ := h.pv.alive h1 h3 hq hw
  have hkn : k < L.length := (List.getElem?_eq_some_iff.1 hq).1
  have hk : k < 9223372036854775808 := by have := h.doc.le; omega
  have hold := h.old.size
  have hb : -9223372036854775808 ≤ (k : Int) ∧ (k : Int) < 9223372036854775808 := by omega
  have hdead : ∀ j, 1 ≤ j → j ≤ 3 → j ≠ i → Dead (MM j) (k : Int) q.g := fun j j1 j3 hne => Or.inr ⟨k, rfl, Or.inl (h.pv.none_who j1 j3 hq (by omega))⟩
  rcases (show i = 1 ∨ i = 2 ∨ i = 3 by omega) with e | e | e
  · rw [e] at hM ⊢
    obtain ⟨pq, hf, hA⟩ := (h.a 1 (Or.inl rfl)).place hM
    have ho := fun W (t : Turn (· = pq) wr W) => h.others (i := 1) (by omega) (by omega) hf t
    refine (wwrite_1_yes h.hd k q.g x (.pointer none) false (.pointer none) false pq hA (by simp) (by decide) (fun W t => getS_F ((h.a 1 (Or.inl rfl)).same t) k q.g pq v hk hf (hA.turn t (fun h => h)))
      (fun W t => agetT_no ((ho W t).2 (by omega)) k q.g hb (hdead 2 (by omega) (by omega) (by omega))) (fun W t => agetS_no ((ho W t).1 3 (Or.inr rfl) (by omega)) k q.g hb (hdead 3 (by omega) (by omega) (by omega)))).mono fun e w1 ⟨he, W, t1, t2⟩ => ⟨he, .string x, pq, ?_⟩
    have hA1 := (hA.turn t1 (fun h => h)).set 1 (.string x)
    exact ⟨hA1.turn t2 (fun h => h), fun _ => rfl, fun e => by omega, hf, ((t1.mono fun _ _ h => h.elim).trans ((Turn.refl (fun i => i = pq) W).setCell (p := ⟨pq, 1, none⟩) (Or.inl rfl) _)).trans (t2.mono fun _ _ h => h.elim)⟩
  · rw [e] at hM ⊢
    obtain ⟨pq, hf, hA⟩ := h.b.place hM
    have ho := fun W (t : Turn (· = pq) wr W) => h.others (i := 2) (by omega) (by omega) hf t
    obtain ⟨p1, b1, G1⟩ := agetS_any (h.a 1 (Or.inl rfl)) k q.g hb
    refine (wwrite_2_yes h.hd k q.g x p1 b1 (.pointer none) false pq hA (by simp) (by decide) G1 (fun W t => getT_F (h.b.same t) k q.g pq v hk hf (hA.turn t (fun h => h)))
      (fun W t => agetS_no ((ho W t).1 3 (Or.inr rfl) (by omega)) k q.g hb (hdead 3 (by omega) (by omega) (by omega)))).mono fun e w1 ⟨he, W, t1, t2⟩ => ⟨he, .slice (some ⟨W.heap.size, 0, none⟩) 1 1, pq, ?_⟩
    have ta := (Turn.refl (fun _ => False) W).alloc (.cells #[.string x] 9)
    have hA1 := ((hA.turn t1 (fun h => h)).turn ta (fun h => h)).set 1 (.slice (some ⟨W.heap.size, 0, none⟩) 1 1)
    have hT := At.new W (.cells #[.string x] 9)
    have tz : Turn (· = pq) (W.alloc (.cells #[.string x] 9)) ((W.alloc (.cells #[.string x] 9)).setCell ⟨pq, 1, none⟩ (.slice (some ⟨W.heap.size, 0, none⟩) 1 1)) := (Turn.refl (fun i => i = pq) _).setCell (p := ⟨pq, 1, none⟩) (Or.inl rfl) _
    have hne : ¬ W.heap.size = pq := by have := (hA.turn t1 (fun h => h)).lt; omega
    exact ⟨hA1.turn t2 (fun h => h), fun e => absurd rfl e, fun _ => ⟨_, rfl, (hT.turn tz hne).turn t2 (fun h => h), Nat.le_trans hold t1.size⟩, hf, (((t1.trans ta).mono fun _ _ h => h.elim).trans tz).trans (t2.mono fun _ _ h => h.elim)⟩
  · rw [e] at hM ⊢
    obtain ⟨pq, hf, hA⟩ := (h.a 3 (Or.inr rfl)).place hM
    have ho := fun W (t : Turn (· = pq) wr W) => h.others (i := 3) (by omega) (by omega) hf t
    obtain ⟨p1, b1, G1⟩ := agetS_any (h.a 1 (Or.inl rfl)) k q.g hb
    obtain ⟨p2, b2, G2⟩ := agetT_any h.b k q.g hb
    refine (wwrite_3_yes h.hd k q.g x p1 b1 p2 b2 pq hA (by simp) (by decide) G1 G2 (fun W t => getS_F ((h.a 3 (Or.inr rfl)).same t) k q.g pq v hk hf (hA.turn t (fun h => h)))).mono fun e w1 ⟨he, W, t1, t2⟩ => ⟨he, .string x, pq, ?_⟩
    have hA1 := (hA.turn t1 (fun h => h)).set 1 (.string x)
    exact ⟨hA1.turn t2 (fun h => h), fun _ => rfl, fun e => by omega, hf, ((t1.mono fun _ _ h => h.elim).trans ((Turn.refl (fun i => i = pq) W).setCell (p := ⟨pq, 1, none⟩) (Or.inl rfl) _)).trans (t2.mono fun _ _ h => h.elim)⟩

/-- Behind the arena's part. -/
theorem WSt.half_facts (h : WSt w0 wr n xb pb gb fb ab mb qb lb cap vt G fr MM nn ff L hs) {i : Nat} (h1 : 1 ≤ i) (h3 : i ≤ 3) {k : Nat} {q : Sl} {x : ByteArray} {v' : Value} {pq : Nat} (hh : HalfW w0 wr w1 i (ff i) k q x v' pq) :
    Doc w1 qb lb cap L ∧ At w1 xb (.cells #[.pointer (some ⟨pb, 0, none⟩), .pointer (some ⟨ab 1, 0, none⟩), .pointer (some ⟨ab 3, 0, none⟩), .pointer (some ⟨ab 2, 0, none⟩), .pointer (some ⟨qb, 0, none⟩), vt] 60 (0, 0)) := by
  obtain ⟨q', e, hk⟩ := h.kindP h1 h3 hh.f_
  injection e with e; injection e with e; injection e with e
  subst e
  have h30 : ∀ ts : List TypeId, 134 ∉ ts → 97 ∉ ts → (if i = 2 then 134 else 97 : TypeId) ∉ ts := fun ts a b => by split <;> assumption
  exact ⟨h.doc.off hh.t_ (hk.off _ (h30 _ (by decide) (by decide)) 0), h.hd.turn hh.t_ ((hk.off [60] (h30 _ (by decide) (by decide)) 0).row ⟨_, h.hd⟩ (by simp))⟩
theorem WSt.wrote (h : WSt w0 wr n xb pb gb fb ab mb qb lb cap vt G fr MM nn ff L hs) {i : Nat} (h1 : 1 ≤ i) (h3 : i ≤ 3) {k : Nat} {q : Sl} (hq : L[k]? = some q) (hw : q.who = i) {x : ByteArray} {v' : Value} {pq : Nat} (hh : HalfW w0 wr w1 i (ff i) k q x v' pq) :
    WS w0 (w1.setCell ⟨lb, k * 3 + 2, none⟩ (.string x)) n xb pb gb fb ab mb qb lb cap vt (L.set k ⟨q.g, q.who, x⟩) hs := by
  obtain ⟨hd1, hx1⟩ := h.half_facts h1 h3 hh
  obtain ⟨hd2, t2⟩ := hd1.text hq x
  obtain ⟨q', e, hk⟩ := h.kindP h1 h3 hh.f_
  injection e with e; injection e with e; injection e with e
  subst e
  obtain ⟨v, hM, hv⟩ := h.pv.alive h1 h3 hq hw
  have hkl : k < L.length := (List.getElem?_eq_some_iff.1 hq).1
  have h30 : ∀ ts : List TypeId, 134 ∉ ts → 97 ∉ ts → (if i = 2 then 134 else 97 : TypeId) ∉ ts := fun ts a b => by split <;> assumption
  obtain ⟨o1, o2⟩ := h.others h1 h3 hh.f_ hh.t_
  have hnq := h.newP i k pq hh.f_
  obtain ⟨n1, n2, n3, n4⟩ := h.new
  generalize hw2 : w1.setCell ⟨lb, k * 3 + 2, none⟩ (.string x) = w2 at hd2 t2 ⊢
  refine ⟨G, fr, updMs MM i k (some (q.g, v')), nn, ff, (h.pool.off hh.t_ (hk.off _ (h30 _ (by decide) (by decide)) 0)).off t2 (hd1.offlb _ (by decide) 0), fun j hj => ?_, ?_, hd2, hx1.turn t2 ((hd1.offlb [60] (by decide) 0).row ⟨_, hx1⟩ (by simp)), ?_, ?_, h.new, h.newM, h.ne, h.newP, h.sep, ?_, h.pv.write hq h1 h3 hw x v' hh.val, h.each⟩
  · unfold updMs
    by_cases e : j = i
    · subst e
      rw [if_pos rfl]
      have e2 : j ≠ 2 := by omega
      have hat := hh.at_
      rw [if_neg e2] at hat
      obtain ⟨pq', hf', hA⟩ := (h.a j hj).place hM
      have : pq' = pq := by
        rw [hh.f_] at hf'
        injection hf' with e; injection e with e; injection e with e; injection e with e
        exact e.symm
      subst this
      exact ((h.a j hj).wrote (by decide) hM hf' hA hh.t_ hat).off t2 (hd1.offlb _ (by decide) _)
    · rw [if_neg e]
      exact (o1 j hj e).off t2 (hd1.offlb _ (by decide) _)
  · unfold updMs
    by_cases e : 2 = i
    · subst e
      rw [if_pos rfl]
      have hat := hh.at_
      rw [if_pos rfl] at hat
      obtain ⟨pq', hf', hA⟩ := h.b.place hM
      have : pq' = pq := by
        rw [hh.f_] at hf'
        injection hf' with e; injection e with e; injection e with e; injection e with e
        exact e.symm
      subst this
      exact (h.b.wrote (by decide) hM hf' hA hh.t_ hat).off t2 (hd1.offlb _ (by decide) _)
    · rw [if_neg e]
      exact (o2 e).off t2 (hd1.offlb _ (by decide) _)
  · refine (h.told.turn hh.t_ (fun j c hj _ _ => (hk.off [32] (h30 _ (by decide) (by decide)) 0).row ⟨c, hj⟩ (by simp))).turn t2 (fun j c hj _ _ => (hd1.offlb [32] (by decide) 0).row ⟨c, hj⟩ (by simp))
  · exact (h.old.then hh.t_ (fun j hj e => by omega)).then t2 (fun j hj e => by omega)
  · intro y p g v2 hy hm
    unfold updMs at hm
    by_cases ey : y = k
    · subst ey
      rw [List.getElem?_set_self hkl] at hy
      injection hy with hy
      subst hy
      by_cases e : 2 = i
      · rw [if_pos e] at hm
        unfold updM at hm
        rw [if_pos rfl] at hm
        injection hm with hm
        injection hm with _ hm
        subst hm
        obtain ⟨tb, e1, e2, e3⟩ := hh.txt e.symm
        exact ⟨tb, e1, e2.turn t2 ((hd1.offlb [9] (by decide) 0).row ⟨_, e2⟩ (by simp)), e3⟩
      · rw [if_neg e] at hm
        have := h.pv.none_who (i := 2) (by omega) (by omega) hq (by omega)
        rw [this] at hm
        cases hm
    · rw [List.getElem?_set_ne (Ne.symm ey)] at hy
      have hm2 : MM 2 y = some (g, v2) := by
        by_cases e : 2 = i
        · subst e
          rw [if_pos rfl] at hm
          unfold updM at hm
          rw [if_neg ey] at hm
          exact hm
        · rw [if_neg e] at hm; exact hm
      obtain ⟨tb, e1, e2, e3⟩ := h.txt y p g v2 hy hm2
      have e4 := e2.turn hh.t_ ((hk.off [9] (h30 _ (by decide) (by decide)) 0).row ⟨_, e2⟩ (by simp))
      exact ⟨tb, e1, e4.turn t2 ((hd1.offlb [9] (by decide) 0).row ⟨_, e4⟩ (by simp)), e3⟩
end
end Go.Proofs.YtbdfbgkfhaiccaaDoor
