/-
  Words on memory: worlds that part in some blocks alone; a block known whole; a map from int known as a partial function.
-/
import Derived.Below
import Derived.Maps.Own
import Derived.Maps.OwnSet
import Derived.Laws.Rows
import Derived.Deep.Draws
import Derived.WalkKit
import Derived.Lib.Hide
namespace Go.Proofs.Ythopiamiipmobaa
open Go.RowKit Go.Maps Go.Lib
set_option linter.unusedVariables false

/-- w' is w but for the blocks of X, and for new ones. -/
structure Turn (X : Nat → Prop) (w w' : World) : Prop where
  os : w'.os = w.os
  tape : w'.tape = w.tape
  output : w'.output = w.output
  size : w.heap.size ≤ w'.heap.size
  block : ∀ k, k < w.heap.size → ¬ X k → w'.heap[k]? = w.heap[k]?

theorem Turn.refl (X : Nat → Prop) (w : World) : Turn X w w := ⟨rfl, rfl, rfl, Nat.le_refl _, fun _ _ _ => rfl⟩
theorem Turn.then {X Y : Nat → Prop} {a b c : World} (h : Turn X a b) (k : Turn Y b c) (hs : ∀ i, i < a.heap.size → Y i → X i) : Turn X a c :=
  ⟨k.os.trans h.os, k.tape.trans h.tape, k.output.trans h.output, Nat.le_trans h.size k.size, fun i hi hn => (k.block i (Nat.lt_of_lt_of_le hi h.size) (fun hy => hn (hs i hi hy))).trans (h.block i hi hn)⟩
theorem Turn.trans {X : Nat → Prop} {a b c : World} (h : Turn X a b) (k : Turn X b c) : Turn X a c := h.then k fun _ _ hx => hx
theorem Turn.mono {X Y : Nat → Prop} {w w' : World} (h : Turn X w w') (hs : ∀ k, k < w.heap.size → X k → Y k) : Turn Y w w' :=
  (Turn.refl Y w).then h hs
theorem Turn.alloc {X : Nat → Prop} {a w : World} (h : Turn X a w) (o : Obj) : Turn X a (w.alloc o) :=
  h.trans ⟨rfl, rfl, rfl, by simp, fun k hk _ => Below.heap_alloc _ _ _ hk⟩
theorem Turn.drew {X : Nat → Prop} {a w : World} (h : Turn X a w) : Turn X a w.drew := ⟨h.os, h.tape, h.output, h.size, h.block⟩
theorem Turn.drewN {X : Nat → Prop} {a w : World} (h : Turn X a w) (n : Nat) : Turn X a (w.drewN n) := ⟨h.os, h.tape, h.output, h.size, h.block⟩
theorem Turn.of_drewN {X : Nat → Prop} {a w : World} {n : Nat} (h : Turn X (a.drewN n) w) : Turn X a w := ⟨h.os, h.tape, h.output, h.size, h.block⟩
theorem Turn.setCell {X : Nat → Prop} {a w : World} (h : Turn X a w) {p : Addr} (hp : X p.block ∨ a.heap.size ≤ p.block) (u : Value) : Turn X a (w.setCell p u) :=
  h.then (Y := fun i => i = p.block) ⟨rfl, rfl, rfl, by simp [World.setCell], fun k _ hk => Below.heap_setCell _ _ _ _ hk⟩ (by
    intro i hi he
    subst he
    rcases hp with hp | hp
    · exact hp
    · omega)
theorem Turn.grown {X : Nat → Prop} {a w w' : World} {row : Option Nat} (h : Turn X a w) (hg : w.grownBy w' row) (hr : ∀ k, row = some k → X k ∨ a.heap.size ≤ k) : Turn X a w' :=
  h.then (Y := fun i => some i = row) ⟨hg.os, hg.tape, hg.output, hg.size, fun k hk hn => hg.block k hk hn⟩ (by
    intro i hi he
    rcases hr i he.symm with hp | hp
    · exact hp
    · omega)
theorem Turn.below {X : Nat → Prop} {w w' : World} (h : Turn X w w') {B : Nat} (hB : B ≤ w.heap.size) (hX : ∀ k, k < B → ¬ X k) : Below B w w' :=
  ⟨h.os, h.tape, h.output, h.size, fun k hk => h.block k (by omega) (hX k hk)⟩
theorem Turn.of_below {X : Nat → Prop} {w w' : World} (h : Below w.heap.size w w') : Turn X w w' := ⟨h.os, h.tape, h.output, h.size, fun k hk _ => h.block k hk⟩

/-- Block g is the object o. -/
def At (w : World) (g : Nat) (o : Obj) : Prop := w.heap[g]? = some o
section
variable {w w' : World} {g : Nat} {o : Obj} {c : Array Value} {t : TypeId} {f : Nat × Nat}
theorem At.lt (h : At w g o) : g < w.heap.size := (Array.getElem?_eq_some_iff.1 h).1
theorem At.turn {X : Nat → Prop} (h : At w g o) (k : Turn X w w') (hg : ¬ X g) : At w' g o := (k.block g h.lt hg).trans h
theorem At.cell (h : At w g (.cells c t f)) (i : Nat) : w.cell? ⟨g, i, none⟩ = c[i]? := by
  unfold At at h
  simp [World.cell?, h]
theorem At.thawed (h : At w g (.cells c t (0, 0))) (i : Nat) : w.frozen? ⟨g, i, none⟩ = false := by
  unfold At at h
  simp [World.frozen?, h]
theorem At.new (w : World) (o : Obj) : At (w.alloc o) w.heap.size o := by
  show (w.heap.push o)[w.heap.size]? = _
  rw [Array.getElem?_push, if_pos rfl]
theorem At.set (h : At w g (.cells c t f)) (i : Nat) (u : Value) : At (w.setCell ⟨g, i, none⟩ u) g (.cells (c.setIfInBounds i u) t f) := by
  unfold At at h ⊢
  simp [World.setCell, Array.getElem?_modify, h]
theorem At.eq {o' : Obj} (h : At w g o) (h' : At w g o') : o = o' := Option.some.inj (h.symm.trans h')
theorem At.ne {g' : Nat} {o' : Obj} (h : At w g o) (h' : At w g' o') (hne : o ≠ o') : g ≠ g' := fun e => hne (by subst e; exact h.eq h')
end

/-! a map from int as a partial function -/
def hold (v : Value) : Option (DataW Value × List MemPlace) := some (.held v, [])
def IMap (P : Program) (k : TypeId) (w : World) (b : Nat) (f : Int → Option Value) (n : Nat) : Prop :=
  ∃ D : DataW Value, w.ownsMap P k hold b n D ∧ Maps.size D = n ∧ (∀ i, Maps.has D (.int .i64 i) = (f i).isSome) ∧ ∀ i v, f i = some v → ∀ z, D.atKey (.int .i64 i) z = .held v

section
variable {P : Program} {k t e : TypeId} {w w' : World} {b n : Nat} {f : Int → Option Value} {i : Int}

theorem wf64 {i : Int} (h1 : -9223372036854775808 ≤ i) (h2 : i ≤ 9223372036854775807) : (Lit.int .i64 i).wf = true := by
  exact WalkArith.wf_i64 ⟨h1, h2⟩

theorem IMap.made (P : Program) (k : TypeId) (w : World) : IMap P k (w.alloc (.map #[] 0)) w.heap.size (fun _ => none) 0 :=
  ⟨_, World.ownsMap_made w P k hold, rfl, fun _ => rfl, fun _ _ h => by cases h⟩

theorem IMap.congr {g : Int → Option Value} (hg : ∀ i, f i = g i) (h : IMap P k w b f n) : IMap P k w b g n := by
  rwa [show f = g from funext hg] at h
theorem IMap.obj (h : IMap P k w b f n) : ∃ es clock, At w b (.map es clock) := by
  obtain ⟨D, ⟨es, clock, hb, _⟩, _⟩ := h
  exact ⟨es, clock, hb⟩
theorem IMap.lt (h : IMap P k w b f n) : b < w.heap.size := by
  obtain ⟨es, clock, hb⟩ := h.obj
  exact hb.lt
theorem IMap.ne {g : Nat} {c : Array Value} {t : TypeId} {fz : Nat × Nat} (h : IMap P k w b f n) (h' : At w g (.cells c t fz)) : b ≠ g := by
  obtain ⟨es, clock, hb⟩ := h.obj
  exact hb.ne h' (by intro e; cases e)

theorem IMap.turn {X : Nat → Prop} (h : IMap P k w b f n) (k' : Turn X w w') (hb : ¬ X b) : IMap P k w' b f n := by
  obtain ⟨D, ⟨es, clock, hh, F, hs, hD⟩, r⟩ := h
  exact ⟨D, ⟨es, clock, At.turn (w := w) (w' := w') hh k' hb, F, hs, hD⟩, r⟩

theorem IMap.look (h : IMap P k w b f n) (K : Keyed P k) (hk : P.underlying k = some (.int .i64)) (ht : P.underlying t = some (.map k e)) {z : Value} (hz : (zeroValue e).run P w = .ok z w) (hw : (Lit.int .i64 i).wf = true) :
    (Instr.lookup t (.map (some b)) (.int .i64 i) true).run P w = .ok (.tuple #[(f i).getD z, .bool (f i).isSome]) w := by
  obtain ⟨D, ho, _, hh, ha⟩ := h
  obtain ⟨v, ps, hrun, hv⟩ := ho.look_ok K ht hz (zd := .held z) (zp := []) rfl (keyOf_int_mk hk hw)
  rw [hrun, hh i]
  have hv' : DataW.held v = D.atKey (.int .i64 i) (.held z) := by
    simp only [hold, Option.some.injEq, Prod.mk.injEq] at hv
    exact hv.1
  cases hf : f i with
  | none =>
    rw [Maps.atKey_of_not_has (by rw [hh i, hf]; rfl)] at hv'
    injection hv' with hv'
    subst hv'
    rfl
  | some u =>
    rw [ha i u hf] at hv'
    injection hv' with hv'
    subst hv'
    rfl

theorem IMap.look1 (h : IMap P k w b f n) (K : Keyed P k) (hk : P.underlying k = some (.int .i64)) (ht : P.underlying t = some (.map k e)) {z : Value} (hz : (zeroValue e).run P w = .ok z w) (hw : (Lit.int .i64 i).wf = true) :
    (Instr.lookup t (.map (some b)) (.int .i64 i) false).run P w = .ok ((f i).getD z) w := by
  obtain ⟨D, ho, _, hh, ha⟩ := h
  obtain ⟨v, ps, hrun, hv⟩ := ho.lookup K ht hz (zd := .held z) (zp := []) rfl (keyOf_int_mk hk hw)
  rw [hrun]
  have hv' : DataW.held v = D.atKey (.int .i64 i) (.held z) := by
    simp only [hold, Option.some.injEq, Prod.mk.injEq] at hv
    exact hv.1
  cases hf : f i with
  | none =>
    rw [Maps.atKey_of_not_has (by rw [hh i, hf]; rfl)] at hv'
    injection hv' with hv'
    subst hv'
    rfl
  | some u =>
    rw [ha i u hf] at hv'
    injection hv' with hv'
    subst hv'
    rfl

def put (f : Int → Option Value) (i : Int) (v : Value) : Int → Option Value := fun j => if j = i then some v else f j
def del (f : Int → Option Value) (i : Int) : Int → Option Value := fun j => if j = i then none else f j

theorem lit_ne {i j : Int} (h : j ≠ i) : (Lit.int .i64 j) ≠ Lit.int .i64 i := fun e => h (by injection e)
theorem isKey (i : Int) : WideAt.IsKeyLit (Lit.int .i64 i) := trivial

theorem IMap.store (h : IMap P k w b f n) (K : Keyed P k) (hk : P.underlying k = some (.int .i64)) (ht : P.underlying t = some (.map k e)) (hn : n < 1000000) (hw : (Lit.int .i64 i).wf = true) (v : Value) :
    ∃ w', (Instr.mapUpdate t (.map (some b)) (.int .i64 i) v).run P w = .ok () w' ∧ IMap P k w' b (put f i v) (if (f i).isSome then n else n + 1) ∧ Turn (· = b) w w' := by
  obtain ⟨D, ho, hs, hh, ha⟩ := h
  obtain ⟨w', hrun, ho', ht'⟩ := ho.store K ht (by unfold maxLen; omega) (keyOf_int_mk hk hw) (val := v) (d := .held v) (ps := []) rfl
  have htd := ho.tidy K
  have hsz : Maps.size (D.put (.int .i64 i) (.held v)) = if (f i).isSome then n else n + 1 := by rw [Maps.size_put htd, hh i, hs]
  refine ⟨w', hrun, ⟨_, ?_, hsz, ?_, ?_⟩, (Turn.refl _ _).grown ht'.grown (fun j hj => Or.inl (by injection hj with hj; exact hj.symm))⟩
  · obtain ⟨es, clock, hb, F, _, hD⟩ := ho'
    refine ⟨es, clock, hb, F, ?_, hD⟩
    have e1 : Maps.size (D.put (.int .i64 i) (.held v)) = es.size := by rw [hD]; simp [Maps.size, length_sorted]
    rw [← hsz, e1]
    exact Nat.le_refl _
  · intro j
    by_cases hj : j = i
    · subst hj
      rw [Maps.has_put_same htd.isMap (isKey _)]
      simp [put]
    · rw [Maps.has_put_other (lit_ne hj), hh j]
      simp [put, hj]
  · intro j u hu z
    by_cases hj : j = i
    · subst hj
      rw [Maps.atKey_put_same htd.isMap (isKey _)]
      simp [put] at hu
      rw [hu]
    · rw [Maps.atKey_put_other (lit_ne hj)]
      exact ha j u (by simpa [put, hj] using hu) z

theorem IMap.drop (h : IMap P k w b f n) (K : Keyed P k) (hk : P.underlying k = some (.int .i64)) (ht : P.underlying t = some (.map k e)) (hw : (Lit.int .i64 i).wf = true) (ty : TypeId) :
    ∃ w', (Builtin.delete_ #[t, k] ty #[.map (some b), .int .i64 i]).run P w = .ok (.tuple #[]) w' ∧ IMap P k w' b (del f i) (if (f i).isSome then n - 1 else n) ∧ Turn (· = b) w w' := by
  obtain ⟨D, ho, hs, hh, ha⟩ := h
  obtain ⟨w', hrun, ho', ht'⟩ := ho.drop K ht (keyOf_int_mk hk hw) ty
  have htd := ho.tidy K
  have hsz : Maps.size (D.del (.int .i64 i)) = if (f i).isSome then n - 1 else n := by
    have h1 := Maps.size_del (k := .int .i64 i) htd
    rw [hh i, hs] at h1
    cases hf : (f i).isSome <;> simp [hf] at h1 ⊢ <;> omega
  refine ⟨w', hrun, ⟨_, ?_, hsz, ?_, ?_⟩, (Turn.refl _ _).grown ht'.grown (fun j hj => Or.inl (by injection hj with hj; exact hj.symm))⟩
  · obtain ⟨es, clock, hb, F, _, hD⟩ := ho'
    refine ⟨es, clock, hb, F, ?_, hD⟩
    have e1 : Maps.size (D.del (.int .i64 i)) = es.size := by rw [hD]; simp [Maps.size, length_sorted]
    rw [← hsz, e1]
    exact Nat.le_refl _
  · intro j
    by_cases hj : j = i
    · subst hj
      rw [Maps.has_del_same]
      simp [del]
    · rw [Maps.has_del_other (lit_ne hj), hh j]
      simp [del, hj]
  · intro j u hu z
    by_cases hj : j = i
    · subst hj
      simp [del] at hu
    · rw [Maps.atKey_del_other (lit_ne hj)]
      exact ha j u (by simpa [del, hj] using hu) z

theorem IMap.len (h : IMap P k w b f n) (ht : P.underlying t = some (.map k e)) (ty : TypeId) : (Builtin.len_ #[t] ty #[.map (some b)]).run P w = .ok (.int .i64 n) w := by
  obtain ⟨D, ho, hs, _⟩ := h
  rw [ho.len ht ty, hs]
end

end Go.Proofs.Ythopiamiipmobaa
