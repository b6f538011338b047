/-
  An epoch in memory: its block, its map of pinned tasks, its row of those that wait.
-/
import Derived.Test.YthohhehelnkpgaaAb
import Derived.Test.YthohhehelnkpgaaProg
import Derived.ArgAppend
import Derived.Maps.AppendAt
namespace Go.Proofs.Ythohhehelnkpgaa
open Go.RowKit Go.Maps Go.Lib
set_option linter.unusedVariables false

theorem law3 : Keyed Try.prog 3 := int_keyed Try.underlying3

/-- v is a slice of l: in block q from cell off on, with room for cap. -/
structure QueAt (Z : Nat) (w : World) (q off cap : Nat) (l : List (Value × Nat)) : Prop where
  row : ∃ c : Array Value, At w q (.cells c 55 (0, 0)) ∧ off + cap * 2 ≤ c.size ∧ ∀ (j : Nat) (u : Value), (flat2 l)[j]? = some u → c[off + j]? = some u
  le : l.length ≤ cap
  base : Z ≤ q
def Que (Z : Nat) (w : World) (v : Value) (l : List (Value × Nat)) : Prop := (v = .slice none 0 0 ∧ l = []) ∨ ∃ q off cap, v = .slice (some ⟨q, off, none⟩) l.length cap ∧ QueAt Z w q off cap l

section
variable {Z : Nat} {w w' : World} {q off cap : Nat} {l : List (Value × Nat)} {v : Value}
theorem QueAt.turn {X : Nat → Prop} (h : QueAt Z w q off cap l) (t : Turn X w w') (hX : ¬ X q) : QueAt Z w' q off cap l := by
  obtain ⟨c, hc, r⟩ := h.row
  exact ⟨⟨c, hc.turn t hX, r⟩, h.le, h.base⟩
theorem Que.turn {X : Nat → Prop} (h : Que Z w v l) (t : Turn X w w') (hX : ∀ i c f, At w i (.cells c 55 f) → ¬ X i) : Que Z w' v l := by
  rcases h with h | ⟨q, off, cap, hv, hq⟩
  · exact Or.inl h
  · obtain ⟨c, hc, r⟩ := hq.row
    exact Or.inr ⟨q, off, cap, hv, hq.turn t (hX q c _ hc)⟩
theorem Que.form (h : Que Z w v l) : ∃ A cap, v = .slice A l.length cap := by
  rcases h with ⟨rfl, rfl⟩ | ⟨q, off, cap, rfl, _⟩
  · exact ⟨none, 0, rfl⟩
  · exact ⟨_, _, rfl⟩
theorem QueAt.cell (h : QueAt Z w q off cap l) {j : Nat} {x : Value × Nat} (hj : l[j]? = some x) : w.cell? ⟨q, off + j * 2, none⟩ = some x.1 ∧ w.cell? ⟨q, off + j * 2 + 1, none⟩ = some (.int .i64 (x.2 : Int)) := by
  obtain ⟨c, hc, _, r⟩ := h.row
  obtain ⟨h1, h2⟩ := flat2_at l j x hj
  rw [hc.cell, hc.cell]
  exact ⟨r _ _ h1, by have := r _ _ h2; rwa [← Nat.add_assoc] at this⟩
theorem QueAt.thaw (h : QueAt Z w q off cap l) (i : Nat) : w.frozen? ⟨q, i, none⟩ = false := by
  obtain ⟨c, hc, _⟩ := h.row
  exact hc.thawed i
theorem QueAt.lt (h : QueAt Z w q off cap l) : q < w.heap.size := by
  obtain ⟨c, hc, _⟩ := h.row
  exact hc.lt
/-- One that waits is held by another number. -/
theorem QueAt.hold (h : QueAt Z w q off cap l) {j : Nat} {x : Value × Nat} (hj : l[j]? = some x) (n : Nat) : QueAt Z (w.setCell ⟨q, off + j * 2 + 1, none⟩ (.int .i64 (n : Int))) q off cap (l.set j (x.1, n)) := by
  obtain ⟨c, hc, hs, r⟩ := h.row
  have hjl := (List.getElem?_eq_some_iff.1 hj).1
  refine ⟨⟨_, hc.set _ _, by simpa using hs, fun i u hu => ?_⟩, by simpa using h.le, h.base⟩
  rw [flat2_set l j x n hj, List.getElem?_set] at hu
  have hlen := flat2_len l
  rw [Array.getElem?_setIfInBounds]
  by_cases hi : j * 2 + 1 = i
  · subst hi
    rw [if_pos rfl, if_pos (by omega)] at hu
    have := h.le
    rw [if_pos (by omega), if_pos (by omega)]
    exact hu
  · rw [if_neg hi] at hu
    rw [if_neg (by omega)]
    exact r i u hu
/-- The first one is cleared, and the slice goes on behind it. -/
theorem QueAt.tail {x : Value × Nat} (h : QueAt Z w q off cap (x :: l)) (a b : Value) : QueAt Z ((w.setCell ⟨q, off, none⟩ a).setCell ⟨q, off + 1, none⟩ b) q (off + 2) (cap - 1) l := by
  obtain ⟨c, hc, hs, r⟩ := h.row
  have hle := h.le
  simp only [List.length_cons] at hle
  refine ⟨⟨_, (hc.set _ _).set _ _, by simp; omega, fun i u hu => ?_⟩, by omega, h.base⟩
  rw [Array.getElem?_setIfInBounds, Array.getElem?_setIfInBounds, if_neg (by omega), if_neg (by omega)]
  have e : flat2 (x :: l) = x.1 :: .int .i64 (x.2 : Int) :: flat2 l := rfl
  have := r (i + 2) u (by rw [e]; simpa using hu)
  rw [show off + 2 + i = off + (i + 2) by omega]
  exact this

theorem info55 : (Try.prog.info? 55).map (fun i => (i.zero, i.size, i.bytes)) = some (some (.agg #[.nilFunc, .int .i64 0]), 2, 16) := by kernel_rfl
theorem info_parts {P : Program} {e : TypeId} {z : Value} {s b : Nat} (h : (P.info? e).map (fun i => (i.zero, i.size, i.bytes)) = some (some z, s, b)) : ∃ i, P.info? e = some i ∧ i.zero = some z ∧ i.size = s ∧ i.bytes = b := by
  cases hi : P.info? e with
  | none => rw [hi] at h; cases h
  | some i =>
    rw [hi] at h
    simp only [Option.map_some, Option.some.injEq, Prod.mk.injEq] at h
    exact ⟨i, rfl, h.1, h.2.1, h.2.2⟩

/-- append of one. -/
theorem Que.append (h : Que Z w v l) (g0 : Nat) {t0 : TypeId} {z0 : Nat × Nat} (c : Nat) (f : Value) (n : Nat) (hf : f.oneCell' = true) (hg : At w g0 (.cells #[f, .int .i64 (n : Int)] t0 z0)) (hl : l.length < 1000000) (hZ : Z ≤ w.heap.size) (ty : TypeId) :
    ∃ A cap w', (Builtin.append_ #[50, 50] ty #[v, .slice (some ⟨g0, 0, none⟩) 1 c]).run Try.prog w = .ok (.slice A (l.length + 1) cap) w' ∧ Que Z w' (.slice A (l.length + 1) cap) (l ++ [(f, n)]) ∧ Turn (fun i => Z ≤ i ∧ ∃ c g, At w i (.cells c 55 g)) w w' := by
  obtain ⟨i0, hi, hz0, hz1, hz2⟩ := info_parts info55
  have hnews : ∀ (j : Nat) (u : Value), [f, Value.int .i64 (n : Int)][j]? = some u → w.cell? ((⟨g0, 0, none⟩ : Addr).add j) = some u := by
    intro j u hu
    rw [Addr.add_lit, hg.cell]
    simpa using hu
  have hone : ∀ u ∈ [f, Value.int .i64 (n : Int)], u.oneCell' = true := by
    intro u hu
    simp only [List.mem_cons, List.not_mem_nil, or_false] at hu
    rcases hu with rfl | rfl
    · exact hf
    · rfl
  have grown : ∀ (v' : Value) (w' : World), w'.ownsRow w.heap.size 55 2 v' (l.length + 1) (flat2 l ++ [f, .int .i64 (n : Int)]) → ∃ A cap, v' = .slice A (l.length + 1) cap ∧ Que Z w' v' (l ++ [(f, n)]) := by
    intro v' w' ho
    rcases ho.2 with ⟨_, h0⟩ | ⟨g, cap', cur, hv, hb, hg, hle, _, hsz, htake⟩
    · omega
    · refine ⟨_, _, hv, Or.inr ⟨g, 0, cap', by rw [List.length_append]; exact hv, ⟨⟨cur, hg, by omega, fun j u hu => ?_⟩, by rw [List.length_append]; exact hle, Nat.le_trans hZ hb⟩⟩⟩
      have e : flat2 (l ++ [(f, n)]) = flat2 l ++ [f, .int .i64 (n : Int)] := by rw [flat2_append]; rfl
      rw [e, ← htake] at hu
      rw [List.getElem?_take] at hu
      split at hu
      · simpa using hu
      · cases hu
  rcases h with ⟨rfl, rfl⟩ | ⟨q, off, cap, rfl, hq⟩
  · obtain ⟨v', w', hr, h2, h3, _, h5⟩ := run_append_own_at (P := Try.prog) w w.heap.size 50 ty 55 i0 _ 2 16 Try.underlying50 hi hz0 hz1 hz2 rfl (by omega) (.slice none 0 0) 0 [] (World.ownsRow_nil w _ 55 2) ⟨g0, 0, none⟩ 1 c [f, .int .i64 (n : Int)] rfl hnews hone (by unfold maxLen; omega) (by omega) (Nat.le_refl _)
    obtain ⟨A, cap, rfl, hQ⟩ := grown v' w' h2
    exact ⟨A, cap, w', hr, hQ, (Turn.refl _ w).grown h3 (fun k hk => by cases hk)⟩
  · obtain ⟨cr, hc, hs, r⟩ := hq.row
    by_cases hroom : l.length + 1 ≤ cap
    · have hb : ∀ j, j < 2 → off + l.length * 2 + j < cr.size := by intro j hj; omega
      have hrun := run_append_room_cells (P := Try.prog) w 50 ty 55 i0 Try.underlying50 hi q off l.length cap ⟨g0, 0, none⟩ 1 c [f, .int .i64 (n : Int)] (by rw [hz1]; rfl) hnews hone hroom
        (fun j hj => by
          rw [hz1, hc.cell, Array.getElem?_eq_getElem (hb j (by simpa using hj))]; rfl)
        (fun j hj => hc.thawed _)
      rw [hz1] at hrun
      refine ⟨_, _, _, hrun, Or.inr ⟨q, off, cap, by rw [List.length_append]; rfl, ⟨⟨_, (hc.set _ _).set _ _, by simpa using hs, fun j u hu => ?_⟩, by rw [List.length_append]; exact hroom, hq.base⟩⟩, ?_⟩
      · rw [flat2_append] at hu
        have hlen := flat2_len l
        rw [Array.getElem?_setIfInBounds, Array.getElem?_setIfInBounds]
        rw [List.getElem?_append] at hu
        split at hu
        · rw [if_neg (by omega), if_neg (by omega)]
          exact r j u hu
        · have hj : j - (flat2 l).length = 0 ∨ j - (flat2 l).length = 1 ∨ 2 ≤ j - (flat2 l).length := by omega
          rcases hj with hj | hj | hj
          · rw [hj] at hu
            have h2 := hb 0 (by omega)
            rw [if_neg (by omega), if_pos (by omega), if_pos (by omega)]
            exact hu
          · rw [hj] at hu
            have h2 := hb 1 (by omega)
            rw [if_pos (by omega), if_pos (by simp; omega)]
            exact hu
          · exfalso
            have : ([(f, n)].flatMap fun x => [x.1, Value.int .i64 (x.2 : Int)])[j - (flat2 l).length]? = none := by
              rw [List.getElem?_eq_none]
              simpa using hj
            unfold flat2 at hu this
            rw [this] at hu
            cases hu
      · have t1 : Turn (fun i => Z ≤ i ∧ ∃ c g, At w i (.cells c 55 g)) w (w.setCell ⟨q, off + l.length * 2, none⟩ f) := (Turn.refl _ w).setCell (p := ⟨q, off + l.length * 2, none⟩) (Or.inl ⟨hq.base, _, _, hc⟩) _
        exact t1.setCell (p := ⟨q, off + l.length * 2 + 1, none⟩) (Or.inl ⟨hq.base, _, _, hc⟩) _
    · have holds : ∀ (j : Nat) (u : Value), (flat2 l)[j]? = some u → w.cell? ((⟨q, off, none⟩ : Addr).add j) = some u := by
        intro j u hu
        rw [Addr.add_lit, hc.cell]
        exact r j u hu
      obtain ⟨v', w', hr, h2, h3⟩ := run_append_arg_grows (P := Try.prog) w 50 ty 55 i0 _ 2 16 Try.underlying50 hi hz0 hz1 hz2 rfl (by omega) ⟨q, off, none⟩ l.length cap (flat2 l) (flat2_len l) holds ⟨g0, 0, none⟩ 1 c [f, .int .i64 (n : Int)] rfl hnews (by omega) (by unfold maxLen; omega) (by omega)
      obtain ⟨A, cap', rfl, hQ⟩ := grown v' w' h2
      exact ⟨A, cap', w', hr, hQ, (Turn.refl _ w).grown h3 (fun k hk => by cases hk)⟩
end

/-- The map of pinned tasks. -/
def pv (P : List (Int × Nat)) (i : Int) : Option Value := (look P i).map fun k : Nat => Value.int .i64 (k : Int)
def Pm (Z : Nat) (w : World) (m : Option Nat) (P : List (Int × Nat)) : Prop :=
  (m = none ∧ P = []) ∨ ∃ b, m = some b ∧ Z ≤ b ∧ IMap Try.prog 3 w b (pv P) P.length

/-- Types of the blocks that belong to an epoch. -/
def Eo (t : TypeId) : Prop := t = 52 ∨ t = 55

structure EpAt (Z : Nat) (w : World) (eb : Nat) (m : Option Nat) (v : Value) (E : Ab) : Prop where
  at_ : At w eb (.cells #[.map m, v, .int .i64 (E.gone : Int), .int .i64 (cntk E.P E.len : Int), .bool E.coll] 52 (0, 0))
  pm : Pm Z w m E.P
  que : Que Z w v (wts E.P E.gone E.fs)
  wf : E.wf
  base : Z ≤ eb
def Ep (Z : Nat) (w : World) (eb : Nat) (E : Ab) : Prop := ∃ m v, EpAt Z w eb m v E

section
variable {Z : Nat} {w w' : World} {eb : Nat} {m : Option Nat} {v : Value} {E : Ab}
theorem Pm.turn {X : Nat → Prop} {P : List (Int × Nat)} (h : Pm Z w m P) (t : Turn X w w') (hX : ∀ i es c, At w i (.map es c) → ¬ X i) : Pm Z w' m P := by
  rcases h with h | ⟨b, hm, hz, hb⟩
  · exact Or.inl h
  · obtain ⟨es, c, ho⟩ := hb.obj
    exact Or.inr ⟨b, hm, hz, hb.turn t (hX b es c ho)⟩
theorem EpAt.turn {X : Nat → Prop} (h : EpAt Z w eb m v E) (t : Turn X w w') (h1 : ¬ X eb) (h2 : ∀ i c f, At w i (.cells c 55 f) → ¬ X i) (h3 : ∀ i es c, At w i (.map es c) → ¬ X i) : EpAt Z w' eb m v E :=
  ⟨h.at_.turn t h1, h.pm.turn t h3, h.que.turn t h2, h.wf, h.base⟩
theorem EpAt.same (h : EpAt Z w eb m v E) (t : Turn (fun _ => False) w w') : EpAt Z w' eb m v E := h.turn t (fun h => h) (fun _ _ _ _ h => h) (fun _ _ _ _ h => h)
theorem Ep.same (h : Ep Z w eb E) (t : Turn (fun _ => False) w w') : Ep Z w' eb E := by
  obtain ⟨m, v, h⟩ := h
  exact ⟨m, v, h.same t⟩
theorem EpAt.cells (h : EpAt Z w eb m v E) : w.cell? ⟨eb, 0, none⟩ = some (.map m) ∧ w.cell? ⟨eb, 1, none⟩ = some v ∧ w.cell? ⟨eb, 2, none⟩ = some (.int .i64 (E.gone : Int)) ∧ w.cell? ⟨eb, 3, none⟩ = some (.int .i64 (cntk E.P E.len : Int)) ∧ w.cell? ⟨eb, 4, none⟩ = some (.bool E.coll) := by
  rw [h.at_.cell, h.at_.cell, h.at_.cell, h.at_.cell, h.at_.cell]
  exact ⟨rfl, rfl, rfl, rfl, rfl⟩
theorem EpAt.thaw (h : EpAt Z w eb m v E) (i : Nat) : w.frozen? ⟨eb, i, none⟩ = false := h.at_.thawed i
theorem EpAt.lt (h : EpAt Z w eb m v E) : eb < w.heap.size := h.at_.lt
theorem EpAt.ne (h : EpAt Z w eb m v E) {i : Nat} {c : Array Value} {f : Nat × Nat} (h2 : At w i (.cells c 55 f)) : eb ≠ i := h.at_.ne h2 (by intro e; injection e with _ e; cases e)
theorem EpAt.form (h : EpAt Z w eb m v E) : ∃ A cap, v = .slice A E.fs.length cap := by
  obtain ⟨A, cap, hv⟩ := h.que.form
  rw [wts_len] at hv
  exact ⟨A, cap, hv⟩
theorem set_turn (w : World) (g i : Nat) (u : Value) : Turn (· = g) w (w.setCell ⟨g, i, none⟩ u) := (Turn.refl (fun i => i = g) w).setCell (p := ⟨g, i, none⟩) (Or.inl rfl) u
/-- A field of the epoch's block is written: the rest is as it was. -/
theorem EpAt.set (h : EpAt Z w eb m v E) (i : Nat) (u : Value) {c : Array Value} (hc : (#[.map m, v, .int .i64 (E.gone : Int), .int .i64 (cntk E.P E.len : Int), .bool E.coll] : Array Value).setIfInBounds i u = c) :
    At (w.setCell ⟨eb, i, none⟩ u) eb (.cells c 52 (0, 0)) ∧ Pm Z (w.setCell ⟨eb, i, none⟩ u) m E.P ∧ Que Z (w.setCell ⟨eb, i, none⟩ u) v (wts E.P E.gone E.fs) :=
  ⟨hc ▸ h.at_.set i u, h.pm.turn (set_turn w eb i u) (fun j es c h2 e => by subst e; cases h.at_.eq h2), h.que.turn (set_turn w eb i u) (fun j c f h2 e => h.ne h2 e.symm)⟩
end
end Go.Proofs.Ythohhehelnkpgaa
