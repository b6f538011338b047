/-
  The same two arenas in memory, with the rows of what is alive and what is gone; and the law's acts.
-/
import Derived.Test.YtbdfbgkfhaiccaaDoorHeld
namespace Go.Proofs.YtbdfbgkfhaiccaaDoor
open Go.RowKit Go.Maps
set_option linter.unusedVariables false

structure HSt (w wr : World) (n pb gb fb : Nat) (ab mb : Nat → Nat) (von vgone : Value) (G : List Nat) (fr : Nat → Bool) (MM : Nat → Nat → Option (Nat × Value)) (nn : Nat → Nat) (on gone : List Held) : Prop where
  pool : Pool wr pb gb fb G fr
  ar : ∀ i, i < 2 → Ar 89 97 wr (ab i) (mb i) (.pointer (some ⟨pb, 0, none⟩)) (MM i) (nn i)
  ne : mb 0 ≠ mb 1
  kon : Kept w wr von on
  kgone : Kept w wr vgone gone
  kne : ∀ i, von.ownBlock = some i → vgone.ownBlock ≠ some i
  old : Turn (fun _ => False) w wr
  new : w.heap.size ≤ gb ∧ w.heap.size ≤ fb ∧ w.heap.size ≤ mb 0 ∧ w.heap.size ≤ mb 1
  inv : HInv n G fr MM nn on gone

section
variable {w wr w5 w6 w7 w8 : World} {n pb gb fb : Nat} {ab mb : Nat → Nat} {von vgone von' vgone' : Value} {G : List Nat} {fr : Nat → Bool} {MM : Nat → Nat → Option (Nat × Value)} {nn : Nat → Nat} {on gone : List Held}

theorem HSt.same (h : HSt w wr n pb gb fb ab mb von vgone G fr MM nn on gone) (t : Turn (fun _ => False) wr w5) : HSt w w5 n pb gb fb ab mb von vgone G fr MM nn on gone :=
  ⟨h.pool.turn t (fun h => h) (fun h => h) (fun h => h), fun i hi => (h.ar i hi).same t, h.ne, h.kon.same t, h.kgone.same t, h.kne, h.old.trans t, h.new, h.inv⟩

theorem HSt.mne (h : HSt w wr n pb gb fb ab mb von vgone G fr MM nn on gone) {i j : Nat} (hi : i < 2) (hj : j < 2) (hne : j ≠ i) : mb j ≠ mb i := by
  have := h.ne
  rcases i with _ | _ | i
  · rcases j with _ | _ | j
    · exact absurd rfl hne
    · exact fun e => this e.symm
    · omega
  · rcases j with _ | _ | j
    · exact this
    · exact absurd rfl hne
    · omega
  · omega

theorem HSt.mnew (h : HSt w wr n pb gb fb ab mb von vgone G fr MM nn on gone) {i : Nat} (hi : i < 2) : w.heap.size ≤ mb i := by
  rcases i with _ | _ | i
  · exact h.new.2.2.1
  · exact h.new.2.2.2
  · omega

/-- A row of 73s is none of the pool's words, and no map. -/
theorem HSt.no73 (h : HSt w wr n pb gb fb ab mb von vgone G fr MM nn on gone) {i j : Nat} {c : Array Value} (hi : i < 2) (hj : At wr j (.cells c 73 (0, 0))) : ¬ (j = gb ∨ j = fb ∨ j = mb i) := by
  obtain ⟨⟨c1, h1⟩, ⟨c2, h2⟩, _⟩ := h.pool.rows
  obtain ⟨⟨es, cl, h3⟩, _⟩ := (h.ar i hi).isMap
  have n1 : j ≠ gb := hj.ne h1 (by intro e; injection e with _ e; cases e)
  have n2 : j ≠ fb := hj.ne h2 (by intro e; injection e with _ e; cases e)
  have n3 : j ≠ mb i := hj.ne h3 (by intro e; cases e)
  omega

theorem HSt.farX (h : HSt w wr n pb gb fb ab mb von vgone G fr MM nn on gone) {i j : Nat} (hi : i < 2) (hj : j < 2) (hne : j ≠ i) : Far wr (mb j) (fun k => k = gb ∨ k = fb ∨ k = mb i) := by
  obtain ⟨⟨c1, h1⟩, ⟨c2, h2⟩, _⟩ := h.pool.rows
  obtain ⟨⟨es, cl, h3⟩, _⟩ := (h.ar i hi).isMap
  intro k hk
  rcases hk with rfl | rfl | rfl
  · exact Or.inl ⟨_, _, h1, Or.inl rfl⟩
  · exact Or.inl ⟨_, _, h2, Or.inl rfl⟩
  · exact Or.inr ⟨⟨_, _, h3⟩, Ne.symm (h.mne hi hj hne)⟩

/-- Turned at rows of 73s, new ones alone, or none: pool and arenas stay. -/
theorem Ar.rows73 {X : Nat → Prop} {ab mb nq : Nat} {pp : Value} {M : Nat → Option (Nat × Value)} (h : Ar 89 97 w5 ab mb pp M nq) (t : Turn X w5 w6) (hX : ∀ i, X i → ∃ c, At w5 i (.cells c 73 (0, 0))) : Ar 89 97 w6 ab mb pp M nq := by
  obtain ⟨f, h⟩ := h
  have nc : ∀ q c t', At w5 q (.cells c t' (0, 0)) → t' ≠ 73 → ¬ X q := by
    intro q c t' hq ht hx
    obtain ⟨c2, h2⟩ := hX q hx
    have := hq.eq h2
    injection this with _ this
    exact ht this
  refine ⟨f, h.turn t (nc _ _ _ h.1 (by decide)) ?_ (fun q c hq => nc _ _ _ hq (by decide))⟩
  intro hx
  obtain ⟨c2, h2⟩ := hX mb hx
  exact h.2.1.ne h2 rfl
theorem Pool.rows73 {X : Nat → Prop} (h : Pool w5 pb gb fb G fr) (t : Turn X w5 w6) (hX : ∀ i, X i → ∃ c, At w5 i (.cells c 73 (0, 0))) : Pool w6 pb gb fb G fr := by
  obtain ⟨⟨c1, h1⟩, ⟨c2, h2⟩, ⟨c3, h3⟩⟩ := h.rows
  have nc : ∀ q c t', At w5 q (.cells c t' (0, 0)) → t' ≠ 73 → ¬ X q := by
    intro q c t' hq ht hx
    obtain ⟨c2, h2⟩ := hX q hx
    have := hq.eq h2
    injection this with _ this
    exact ht this
  exact h.turn t (nc _ _ _ h3 (by decide)) (nc _ _ _ h1 (by decide)) (nc _ _ _ h2 (by decide))

/-- A thing has come into arena i, and onto the row of those alive. -/
theorem HSt.put {i s : Nat} {x : ByteArray} (h : HSt w wr n pb gb fb ab mb von vgone G fr MM nn on gone) (hi : i < 2) (hs : fr s = true) (hp : Pool w5 pb gb fb G (fun y => fr y && y != s))
    (ha : Ar 89 97 w5 (ab i) (mb i) (.pointer (some ⟨pb, 0, none⟩)) (updM (MM i) s (some (G.getD s 0, .string x))) (nn i + 1)) (t : Turn (fun k => k = fb ∨ k = mb i) wr w5) (t2 : Turn (fun _ => False) w5 w6)
    (k : Kept w w8 von' (on ++ [⟨s, G.getD s 0, i, x⟩])) (t3 : Turn (fun j => von.ownBlock = some j) w6 w8) (ho : von'.ownBlock = von.ownBlock ∨ von'.ownBlock = some w6.heap.size) :
    HSt w w8 n pb gb fb ab mb von' vgone G (fun y => fr y && y != s) (updMM MM i s (some (G.getD s 0, .string x))) (updN nn i (nn i + 1)) (on ++ [⟨s, G.getD s 0, i, x⟩]) gone := by
  have t' := t.mono (Y := fun k => k = gb ∨ k = fb ∨ k = mb i) (fun k _ hk => Or.inr hk)
  have kon5 := (h.kon.turn t' (fun j c hj _ _ => h.no73 hi hj)).same t2
  have kg5 := (h.kgone.turn t' (fun j c hj _ _ => h.no73 hi hj)).same t2
  have hX : ∀ j, von.ownBlock = some j → ∃ c, At w6 j (.cells c 73 (0, 0)) := fun j hj => (kon5.own hj).1
  obtain ⟨n1, n2, n3, n4⟩ := h.new
  have nm := h.mnew hi
  have u6 : Turn (fun _ => False) w w6 := (h.old.then t (fun k hk hx => by omega)).then t2 (fun _ _ h => h)
  refine ⟨(hp.turn t2 (fun h => h) (fun h => h) (fun h => h)).rows73 t3 hX, ?_, h.ne, k, kg5.turn t3 (fun j c hj _ ho' hx => h.kne j hx ho'), ?_, u6.then t3 (fun j hj hx => by have := (kon5.own hx).2.1; omega), h.new, h.inv.put hi hs x⟩
  · intro j hj
    unfold updMM updN
    by_cases hji : j = i
    · subst hji
      rw [if_pos rfl, if_pos rfl]
      exact (ha.same t2).rows73 t3 hX
    · rw [if_neg hji, if_neg hji]
      exact (((h.ar j hj).far t' (h.farX hi hj hji) (by decide) (by decide)).same t2).rows73 t3 hX
  · intro j hj hg
    rcases ho with ho | ho
    · exact h.kne j (by rw [← ho]; exact hj) hg
    · rw [ho] at hj
      injection hj with hj
      have := (kg5.own hg).2.2
      omega

/-- A thing has gone from its arena, and from the one row to the other. -/
theorem HSt.del {m : Nat} {p : Held} (h : HSt w wr n pb gb fb ab mb von vgone G fr MM nn on gone) (hpx : on[m]? = some p) (hg : gone.length < 1000) (hp : Pool w5 pb gb fb (G.set p.s ((G.getD p.s 0 + 1) % 18446744073709551616)) (fun y => fr y || y == p.s))
    (ha : Ar 89 97 w5 (ab p.i) (mb p.i) (.pointer (some ⟨pb, 0, none⟩)) (updM (MM p.i) p.s none) (nn p.i - 1)) (t : Turn (fun k => k = gb ∨ k = fb ∨ k = mb p.i) wr w5) (t2 : Turn (fun _ => False) w5 w6)
    (kg : Kept w w7 vgone' (gone ++ [p])) (t3 : Turn (fun j => vgone.ownBlock = some j) w6 w7) (ho : vgone'.ownBlock = vgone.ownBlock ∨ vgone'.ownBlock = some w6.heap.size)
    (t4 : Turn (fun _ => False) w7 w8) (kn : Kept w w8 von' (on.take m ++ on.drop (m + 1))) (hon : ∀ j, von'.ownBlock = some j → w7.heap.size ≤ j) :
    HSt w w8 n pb gb fb ab mb von' vgone' (G.set p.s ((G.getD p.s 0 + 1) % 18446744073709551616)) (fun y => fr y || y == p.s) (updMM MM p.i p.s none) (updN nn p.i (nn p.i - 1)) (on.take m ++ on.drop (m + 1)) (gone ++ [p]) := by
  have hi := (h.inv.onM p (List.mem_of_getElem? hpx)).1
  have kg5 := (h.kgone.turn t (fun j c hj _ _ => h.no73 hi hj)).same t2
  have hX : ∀ j, vgone.ownBlock = some j → ∃ c, At w6 j (.cells c 73 (0, 0)) := fun j hj => (kg5.own hj).1
  obtain ⟨n1, n2, n3, n4⟩ := h.new
  have nm := h.mnew hi
  have u6 : Turn (fun _ => False) w w6 := (h.old.then t (fun k hk hx => by omega)).then t2 (fun _ _ h => h)
  refine ⟨((hp.turn t2 (fun h => h) (fun h => h) (fun h => h)).rows73 t3 hX).turn t4 (fun h => h) (fun h => h) (fun h => h), ?_, h.ne, kn, kg.same t4, ?_, (u6.then t3 (fun j hj hx => by have := (kg5.own hx).2.1; omega)).trans t4, h.new, h.inv.del hpx hg⟩
  · intro j hj
    unfold updMM updN
    by_cases hji : j = p.i
    · subst hji
      rw [if_pos rfl, if_pos rfl]
      exact ((ha.same t2).rows73 t3 hX).same t4
    · rw [if_neg hji, if_neg hji]
      exact ((((h.ar j hj).far t (h.farX hi hj hji) (by decide) (by decide)).same t2).rows73 t3 hX).same t4
  · intro j hj hg'
    have h1 := hon j hj
    have h2 := (kg.own hg').2.2
    omega
end

/-! the acts that came in -/
structure ActAt (w : World) (lb o : Nat) (d : Int) (inn : Nat) (X : ByteArray) (hs : Int) (hg ago : Nat) : Prop where
  c0 : w.cell? ⟨lb, o, none⟩ = some (.int .i64 d)
  c1 : w.cell? ⟨lb, o + 1, none⟩ = some (.int .u8 (inn : Int))
  c2 : w.cell? ⟨lb, o + 2, none⟩ = some (.string X)
  c3 : w.cell? ⟨lb, o + 3, none⟩ = some (.int .i64 hs)
  c4 : w.cell? ⟨lb, o + 4, none⟩ = some (.int .u64 (hg : Int))
  c5 : w.cell? ⟨lb, o + 5, none⟩ = some (.int .u8 (ago : Int))
  b1 : inn < 256
  b2 : X.size ≤ 9223372036854775807
  b3 : -9223372036854775808 ≤ hs ∧ hs ≤ 9223372036854775807
  b4 : hg < 18446744073709551616
  b5 : ago < 256
  b0 : -9223372036854775808 ≤ d ∧ d ≤ 9223372036854775807

/-- The slice of acts: its cells, where there are any. -/
def Acts (w : World) (A0 : Option Addr) (len : Nat) : Prop := ∀ j, j < len → ∃ lb lo, A0 = some ⟨lb, lo, none⟩ ∧ lb < w.heap.size ∧ ∃ d inn X hs hg ago, ActAt w lb (lo + j * 6) d inn X hs hg ago

theorem ActAt.turn {w w' : World} {lb o : Nat} {d : Int} {inn : Nat} {X : ByteArray} {hs : Int} {hg ago : Nat} (h : ActAt w lb o d inn X hs hg ago) (t : Turn (fun _ => False) w w') (hlb : lb < w.heap.size) : ActAt w' lb o d inn X hs hg ago := by
  have e : ∀ off v, w.cell? ⟨lb, off, none⟩ = some v → w'.cell? ⟨lb, off, none⟩ = some v := fun off v hv => (World.cell?_of_block (w := w) (t.block lb hlb (fun h => h))).trans hv
  exact ⟨e _ _ h.c0, e _ _ h.c1, e _ _ h.c2, e _ _ h.c3, e _ _ h.c4, e _ _ h.c5, h.b1, h.b2, h.b3, h.b4, h.b5, h.b0⟩
theorem Acts.turn {w w' : World} {A0 : Option Addr} {len : Nat} (h : Acts w A0 len) (t : Turn (fun _ => False) w w') : Acts w' A0 len := fun j hj => by
  obtain ⟨lb, lo, e1, e2, d, inn, X, hs, hg, ago, h⟩ := h j hj
  exact ⟨lb, lo, e1, Nat.lt_of_lt_of_le e2 t.size, d, inn, X, hs, hg, ago, h.turn t e2⟩

def GreatPost (len : Nat) (w : World) (e : Ending) (w' : World) : Prop := ∃ b : Bool, e = .returned (.bool b) ∧ (b = false → len ≤ 200) ∧ w = w'

set_option maxRecDepth 100000 in
theorem great_any (len cap : Nat) (A0 : Option Addr) (w : World) (hl : len ≤ 9223372036854775807) (ha : Hid (Acts w A0 len)) : Calls Tryd.prog 22 #[.slice A0 len cap] w (GreatPost len w) := by
  go_enter Tryd.func22, Tryd.ntmps22
  go_wp2_with fail
  go_loop [3, 4] (fun n i => ∃ (j s : Nat), j ≤ len ∧ j ≤ 201 ∧ s ≤ 60001 * j ∧ i = .int .i64 j ∧ n = .int .i64 s) (fun _ i => 201 - (intOf i).toNat)
  case atStart => exact ⟨0, 0, Nat.zero_le _, by omega, by omega, rfl, rfl⟩
  case round =>
    obtain ⟨j, s, hj, hj2, hs, rfl, rfl⟩ := hrel
    by_cases hlt : j < len ∧ j ≤ 200
    · obtain ⟨h1, h2⟩ := hlt
      have b1 : (j : Int) < (len : Int) := by omega
      have b2 : decide ((j : Int) ≤ 200) = true := by simp; omega
      obtain ⟨lb, lo, rfl, hlb, d, inn, X, hs', hg, ago, hact⟩ := ha.out j h1
      have c2 := hact.c2
      have x1 := hact.b2
      clear hact
      go_wp2_with fail
      go_round
      case rel => exact ⟨j + 1, s + min X.size 60001, by omega, by omega, by omega, by go_num, by go_num⟩
      case measure => simp [intOf]; omega
    · by_cases h1 : j < len
      · have b1 : (j : Int) < (len : Int) := by omega
        have b2 : decide ((j : Int) ≤ 200) = false := by simp; omega
        have b3 : decide ((200 : Int) < (len : Int)) = true := by simp; omega
        go_wp2_with fail
        go_ret
        exact ⟨true, rfl, (fun h => by cases h), rfl⟩
      · have b1 : decide ((j : Int) < (len : Int)) = false := by simp; omega
        by_cases h2 : 200 < len
        · have b3 : decide ((200 : Int) < (len : Int)) = true := by simp; omega
          go_wp2_with fail
          go_ret
          exact ⟨true, rfl, (fun h => by cases h), rfl⟩
        · have b3 : decide ((200 : Int) < (len : Int)) = false := by simp; omega
          go_wp2_with fail
          go_ret
          exact ⟨_, rfl, fun _ => by omega, rfl⟩
end Go.Proofs.YtbdfbgkfhaiccaaDoor
