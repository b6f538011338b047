/-
  A map from bytes, of the law's own, as a partial function.
-/
import Derived.Test.YtijlcehjlacihaaCc
import Derived.Maps.Own
import Derived.Maps.OwnSet
namespace Go.Proofs.Ytijlcehjlacihaa
open Go.RowKit Go.Lib
set_option linter.unusedVariables false
set_option maxRecDepth 20000
set_option linter.unusedSimpArgs false

open Go.Maps
/-! a map from int as a partial function -/
def hold (v : Value) : Option (DataW Value × List MemPlace) := some (.held v, [])
def IMap (P : Program) (k : TypeId) (w : World) (b : Nat) (f : Int → Option Value) (n : Nat) : Prop :=
  ∃ D : DataW Value, w.ownsMap P k hold b n D ∧ Maps.size D = n ∧ (∀ i, Maps.has D (.int .u8 i) = (f i).isSome) ∧ ∀ i v, f i = some v → ∀ z, D.atKey (.int .u8 i) z = .held v

section
variable {P : Program} {k t e : TypeId} {w w' : World} {b n : Nat} {f : Int → Option Value} {i : Int}

theorem IMap.made (P : Program) (k : TypeId) (w : World) : IMap P k (w.alloc (.map #[] 0)) w.heap.size (fun _ => none) 0 :=
  ⟨_, World.ownsMap_made w P k hold, rfl, fun _ => rfl, fun _ _ h => by cases h⟩

theorem IMap.obj (h : IMap P k w b f n) : ∃ es clock, At w b (.map es clock) := by
  obtain ⟨D, ⟨es, clock, hb, _⟩, _⟩ := h
  exact ⟨es, clock, hb⟩
theorem IMap.lt (h : IMap P k w b f n) : b < w.heap.size := by
  obtain ⟨es, clock, hb⟩ := h.obj
  exact hb.lt
theorem IMap.ne {g : Nat} {c : Array Value} {t : TypeId} {fz : Nat × Nat} (h : IMap P k w b f n) (h' : At w g (.cells c t fz)) : b ≠ g := by
  obtain ⟨es, clock, hb⟩ := h.obj
  exact hb.ne h' (by intro e; cases e)

theorem IMap.turn {X : Nat → Prop} (h : IMap P k w b f n) (k' : Turn X w w') (hb : ¬ X b) : IMap P k w' b f n := by
  obtain ⟨D, ⟨es, clock, hh, F, hs, hD⟩, r⟩ := h
  exact ⟨D, ⟨es, clock, At.turn (w := w) (w' := w') hh k' hb, F, hs, hD⟩, r⟩

theorem IMap.look (h : IMap P k w b f n) (K : Keyed P k) (hk : P.underlying k = some (.int .u8)) (ht : P.underlying t = some (.map k e)) {z : Value} (hz : (zeroValue e).run P w = .ok z w) (hw : (Lit.int .u8 i).wf = true) :
    (Instr.lookup t (.map (some b)) (.int .u8 i) true).run P w = .ok (.tuple #[(f i).getD z, .bool (f i).isSome]) w := by
  obtain ⟨D, ho, _, hh, ha⟩ := h
  obtain ⟨v, ps, hrun, hv⟩ := ho.look_ok K ht hz (zd := .held z) (zp := []) rfl (keyOf_int_mk hk hw)
  rw [hrun, hh i]
  have hv' : DataW.held v = D.atKey (.int .u8 i) (.held z) := by
    simp only [hold, Option.some.injEq, Prod.mk.injEq] at hv
    exact hv.1
  cases hf : f i with
  | none =>
    rw [Maps.atKey_of_not_has (by rw [hh i, hf]; rfl)] at hv'
    injection hv' with hv'
    subst hv'
    rfl
  | some u =>
    rw [ha i u hf] at hv'
    injection hv' with hv'
    subst hv'
    rfl

theorem IMap.look1 (h : IMap P k w b f n) (K : Keyed P k) (hk : P.underlying k = some (.int .u8)) (ht : P.underlying t = some (.map k e)) {z : Value} (hz : (zeroValue e).run P w = .ok z w) (hw : (Lit.int .u8 i).wf = true) :
    (Instr.lookup t (.map (some b)) (.int .u8 i) false).run P w = .ok ((f i).getD z) w := by
  obtain ⟨D, ho, _, hh, ha⟩ := h
  obtain ⟨v, ps, hrun, hv⟩ := ho.lookup K ht hz (zd := .held z) (zp := []) rfl (keyOf_int_mk hk hw)
  rw [hrun]
  have hv' : DataW.held v = D.atKey (.int .u8 i) (.held z) := by
    simp only [hold, Option.some.injEq, Prod.mk.injEq] at hv
    exact hv.1
  cases hf : f i with
  | none =>
    rw [Maps.atKey_of_not_has (by rw [hh i, hf]; rfl)] at hv'
    injection hv' with hv'
    subst hv'
    rfl
  | some u =>
    rw [ha i u hf] at hv'
    injection hv' with hv'
    subst hv'
    rfl

def put (f : Int → Option Value) (i : Int) (v : Value) : Int → Option Value := fun j => if j = i then some v else f j
def del (f : Int → Option Value) (i : Int) : Int → Option Value := fun j => if j = i then none else f j

theorem lit_ne {i j : Int} (h : j ≠ i) : (Lit.int .u8 j) ≠ Lit.int .u8 i := fun e => h (by injection e)
theorem isKey (i : Int) : WideAt.IsKeyLit (Lit.int .u8 i) := trivial

theorem IMap.store (h : IMap P k w b f n) (K : Keyed P k) (hk : P.underlying k = some (.int .u8)) (ht : P.underlying t = some (.map k e)) (hn : n < 1000000) (hw : (Lit.int .u8 i).wf = true) (v : Value) :
    ∃ w', (Instr.mapUpdate t (.map (some b)) (.int .u8 i) v).run P w = .ok () w' ∧ IMap P k w' b (put f i v) (if (f i).isSome then n else n + 1) ∧ Turn (· = b) w w' := by
  obtain ⟨D, ho, hs, hh, ha⟩ := h
  obtain ⟨w', hrun, ho', ht'⟩ := ho.store K ht (by unfold maxLen; omega) (keyOf_int_mk hk hw) (val := v) (d := .held v) (ps := []) rfl
  have htd := ho.tidy K
  have hsz : Maps.size (D.put (.int .u8 i) (.held v)) = if (f i).isSome then n else n + 1 := by rw [Maps.size_put htd, hh i, hs]
  refine ⟨w', hrun, ⟨_, ?_, hsz, ?_, ?_⟩, (Turn.refl _ _).grown ht'.grown (fun j hj => Or.inl (by injection hj with hj; exact hj.symm))⟩
  · obtain ⟨es, clock, hb, F, _, hD⟩ := ho'
    refine ⟨es, clock, hb, F, ?_, hD⟩
    have e1 : Maps.size (D.put (.int .u8 i) (.held v)) = es.size := by rw [hD]; simp [Maps.size, length_sorted]
    rw [← hsz, e1]
    exact Nat.le_refl _
  · intro j
    by_cases hj : j = i
    · subst hj
      rw [Maps.has_put_same htd.isMap (isKey _)]
      simp [put]
    · rw [Maps.has_put_other (lit_ne hj), hh j]
      simp [put, hj]
  · intro j u hu z
    by_cases hj : j = i
    · subst hj
      rw [Maps.atKey_put_same htd.isMap (isKey _)]
      simp [put] at hu
      rw [hu]
    · rw [Maps.atKey_put_other (lit_ne hj)]
      exact ha j u (by simpa [put, hj] using hu) z

theorem IMap.drop (h : IMap P k w b f n) (K : Keyed P k) (hk : P.underlying k = some (.int .u8)) (ht : P.underlying t = some (.map k e)) (hw : (Lit.int .u8 i).wf = true) (ty : TypeId) :
    ∃ w', (Builtin.delete_ #[t, k] ty #[.map (some b), .int .u8 i]).run P w = .ok (.tuple #[]) w' ∧ IMap P k w' b (del f i) (if (f i).isSome then n - 1 else n) ∧ Turn (· = b) w w' := by
  obtain ⟨D, ho, hs, hh, ha⟩ := h
  obtain ⟨w', hrun, ho', ht'⟩ := ho.drop K ht (keyOf_int_mk hk hw) ty
  have htd := ho.tidy K
  have hsz : Maps.size (D.del (.int .u8 i)) = if (f i).isSome then n - 1 else n := by
    have h1 := Maps.size_del (k := .int .u8 i) htd
    rw [hh i, hs] at h1
    cases hf : (f i).isSome <;> simp [hf] at h1 ⊢ <;> omega
  refine ⟨w', hrun, ⟨_, ?_, hsz, ?_, ?_⟩, (Turn.refl _ _).grown ht'.grown (fun j hj => Or.inl (by injection hj with hj; exact hj.symm))⟩
  · obtain ⟨es, clock, hb, F, _, hD⟩ := ho'
    refine ⟨es, clock, hb, F, ?_, hD⟩
    have e1 : Maps.size (D.del (.int .u8 i)) = es.size := by rw [hD]; simp [Maps.size, length_sorted]
    rw [← hsz, e1]
    exact Nat.le_refl _
  · intro j
    by_cases hj : j = i
    · subst hj
      rw [Maps.has_del_same]
      simp [del]
    · rw [Maps.has_del_other (lit_ne hj), hh j]
      simp [del, hj]
  · intro j u hu z
    by_cases hj : j = i
    · subst hj
      simp [del] at hu
    · rw [Maps.atKey_del_other (lit_ne hj)]
      exact ha j u (by simpa [del, hj] using hu) z

theorem IMap.len (h : IMap P k w b f n) (ht : P.underlying t = some (.map k e)) (ty : TypeId) : (Builtin.len_ #[t] ty #[.map (some b)]).run P w = .ok (.int .i64 n) w := by
  obtain ⟨D, ho, hs, _⟩ := h
  rw [ho.len ht ty, hs]
end
end Go.Proofs.Ytijlcehjlacihaa
