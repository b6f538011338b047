/-
  Words on memory: worlds that part in some blocks alone; a block known whole.
  Words on memory: worlds that part in some blocks alone; a block known whole; a map from int known as a partial function.
  Plain numbers: words whose bits are a set's; the lowest bit; how many bits are set.
  What the methods of a pool come to: setFree, giveBack, take (and math/bits.TrailingZeros64, whose table is where it was laid).
  Plain numbers: how many bits of a word are set, reckoned as math/bits does it.
  What take, Free, Live and Room of a pool come to (and math/bits.OnesCount64).
-/
import Derived.Below
import Derived.Laws.Rows
import Derived.Deep.Draws
import Derived.WalkKit
import Derived.Lib.Hide
import Derived.Maps.Own
import Derived.Maps.OwnSet
import Derived.Lib.TrailingZeros
import Derived.Test.YtfplnobnmgbgoaaDoorProg
import Derived.WalkSpells
import Derived.WalkLawsBesides
import Derived.Deep.QuietTactic
import Derived.BigQuiet
import Derived.RegionTactic
import Derived.BigRegion
import Derived.ChangeAlike
import Derived.Laws.Bits64b
import Derived.Outline
import Derived.IntWalk
namespace Go.Proofs.YtfplnobnmgbgoaaDoor
open Go.RowKit Go.Lib
set_option linter.unusedVariables false
set_option maxRecDepth 20000
set_option maxRecDepth 20000

/-- w' is w but for the blocks of X, and for new ones. -/
structure Turn (X : Nat → Prop) (w w' : World) : Prop where
  os : w'.os = w.os
  tape : w'.tape = w.tape
  output : w'.output = w.output
  size : w.heap.size ≤ w'.heap.size
  block : ∀ k, k < w.heap.size → ¬ X k → w'.heap[k]? = w.heap[k]?

theorem Turn.refl (X : Nat → Prop) (w : World) : Turn X w w := ⟨rfl, rfl, rfl, Nat.le_refl _, fun _ _ _ => rfl⟩
theorem Turn.then {X Y : Nat → Prop} {a b c : World} (h : Turn X a b) (k : Turn Y b c) (hs : ∀ i, i < a.heap.size → Y i → X i) : Turn X a c :=
  ⟨k.os.trans h.os, k.tape.trans h.tape, k.output.trans h.output, Nat.le_trans h.size k.size, fun i hi hn => (k.block i (Nat.lt_of_lt_of_le hi h.size) (fun hy => hn (hs i hi hy))).trans (h.block i hi hn)⟩
theorem Turn.trans {X : Nat → Prop} {a b c : World} (h : Turn X a b) (k : Turn X b c) : Turn X a c := h.then k fun _ _ hx => hx
theorem Turn.mono {X Y : Nat → Prop} {w w' : World} (h : Turn X w w') (hs : ∀ k, k < w.heap.size → X k → Y k) : Turn Y w w' :=
  (Turn.refl Y w).then h hs
theorem Turn.alloc {X : Nat → Prop} {a w : World} (h : Turn X a w) (o : Obj) : Turn X a (w.alloc o) :=
  h.trans ⟨rfl, rfl, rfl, by simp, fun k hk _ => Below.heap_alloc _ _ _ hk⟩
theorem Turn.drew {X : Nat → Prop} {a w : World} (h : Turn X a w) : Turn X a w.drew := ⟨h.os, h.tape, h.output, h.size, h.block⟩
theorem Turn.drewN {X : Nat → Prop} {a w : World} (h : Turn X a w) (n : Nat) : Turn X a (w.drewN n) := ⟨h.os, h.tape, h.output, h.size, h.block⟩
theorem Turn.of_drewN {X : Nat → Prop} {a w : World} {n : Nat} (h : Turn X (a.drewN n) w) : Turn X a w := ⟨h.os, h.tape, h.output, h.size, h.block⟩
theorem Turn.setCell {X : Nat → Prop} {a w : World} (h : Turn X a w) {p : Addr} (hp : X p.block ∨ a.heap.size ≤ p.block) (u : Value) : Turn X a (w.setCell p u) :=
  h.then (Y := fun i => i = p.block) ⟨rfl, rfl, rfl, by simp [World.setCell], fun k _ hk => Below.heap_setCell _ _ _ _ hk⟩ (by
    intro i hi he
    subst he
    rcases hp with hp | hp
    · exact hp
    · omega)
theorem Turn.grown {X : Nat → Prop} {a w w' : World} {row : Option Nat} (h : Turn X a w) (hg : w.grownBy w' row) (hr : ∀ k, row = some k → X k ∨ a.heap.size ≤ k) : Turn X a w' :=
  h.then (Y := fun i => some i = row) ⟨hg.os, hg.tape, hg.output, hg.size, fun k hk hn => hg.block k hk hn⟩ (by
    intro i hi he
    rcases hr i he.symm with hp | hp
    · exact hp
    · omega)
theorem Turn.below {X : Nat → Prop} {w w' : World} (h : Turn X w w') {B : Nat} (hB : B ≤ w.heap.size) (hX : ∀ k, k < B → ¬ X k) : Below B w w' :=
  ⟨h.os, h.tape, h.output, h.size, fun k hk => h.block k (by omega) (hX k hk)⟩
theorem Turn.of_below {X : Nat → Prop} {w w' : World} (h : Below w.heap.size w w') : Turn X w w' := ⟨h.os, h.tape, h.output, h.size, fun k hk _ => h.block k hk⟩

/-- Block g is the object o. -/
def At (w : World) (g : Nat) (o : Obj) : Prop := w.heap[g]? = some o
section
variable {w w' : World} {g : Nat} {o : Obj} {c : Array Value} {t : TypeId} {f : Nat × Nat}
theorem At.lt (h : At w g o) : g < w.heap.size := (Array.getElem?_eq_some_iff.1 h).1
theorem At.turn {X : Nat → Prop} (h : At w g o) (k : Turn X w w') (hg : ¬ X g) : At w' g o := (k.block g h.lt hg).trans h
theorem At.cell (h : At w g (.cells c t f)) (i : Nat) : w.cell? ⟨g, i, none⟩ = c[i]? := by
  unfold At at h
  simp [World.cell?, h]
theorem At.thawed (h : At w g (.cells c t (0, 0))) (i : Nat) : w.frozen? ⟨g, i, none⟩ = false := by
  unfold At at h
  simp [World.frozen?, h]
theorem At.new (w : World) (o : Obj) : At (w.alloc o) w.heap.size o := by
  show (w.heap.push o)[w.heap.size]? = _
  rw [Array.getElem?_push, if_pos rfl]
theorem At.set (h : At w g (.cells c t f)) (i : Nat) (u : Value) : At (w.setCell ⟨g, i, none⟩ u) g (.cells (c.setIfInBounds i u) t f) := by
  unfold At at h ⊢
  simp [World.setCell, Array.getElem?_modify, h]
theorem At.eq {o' : Obj} (h : At w g o) (h' : At w g o') : o = o' := Option.some.inj (h.symm.trans h')
theorem At.ne {g' : Nat} {o' : Obj} (h : At w g o) (h' : At w g' o') (hne : o ≠ o') : g ≠ g' := fun e => hne (by subst e; exact h.eq h')
end

end Go.Proofs.YtfplnobnmgbgoaaDoor
namespace Go.Proofs.YtfplnobnmgbgoaaDoor
open Go.RowKit Go.Maps

section
variable {w w' : World} {g : Nat} {o : Obj} {c : Array Value} {t : TypeId} {f : Nat × Nat}
end

/-! a map from int as a partial function -/
def hold (v : Value) : Option (DataW Value × List MemPlace) := some (.held v, [])
def IMap (P : Program) (k : TypeId) (w : World) (b : Nat) (f : Int → Option Value) (n : Nat) : Prop :=
  ∃ D : DataW Value, w.ownsMap P k hold b n D ∧ Maps.size D = n ∧ (∀ i, Maps.has D (.int .i64 i) = (f i).isSome) ∧ ∀ i v, f i = some v → ∀ z, D.atKey (.int .i64 i) z = .held v

section
variable {P : Program} {k t e : TypeId} {w w' : World} {b n : Nat} {f : Int → Option Value} {i : Int}

theorem wf64 {i : Int} (h1 : -9223372036854775808 ≤ i) (h2 : i ≤ 9223372036854775807) : (Lit.int .i64 i).wf = true := by
  exact WalkArith.wf_i64 ⟨h1, h2⟩

theorem IMap.made (P : Program) (k : TypeId) (w : World) : IMap P k (w.alloc (.map #[] 0)) w.heap.size (fun _ => none) 0 :=
  ⟨_, World.ownsMap_made w P k hold, rfl, fun _ => rfl, fun _ _ h => by cases h⟩

theorem IMap.obj (h : IMap P k w b f n) : ∃ es clock, At w b (.map es clock) := by
  obtain ⟨D, ⟨es, clock, hb, _⟩, _⟩ := h
  exact ⟨es, clock, hb⟩
theorem IMap.lt (h : IMap P k w b f n) : b < w.heap.size := by
  obtain ⟨es, clock, hb⟩ := h.obj
  exact hb.lt
theorem IMap.ne {g : Nat} {c : Array Value} {t : TypeId} {fz : Nat × Nat} (h : IMap P k w b f n) (h' : At w g (.cells c t fz)) : b ≠ g := by
  obtain ⟨es, clock, hb⟩ := h.obj
  exact hb.ne h' (by intro e; cases e)

theorem IMap.turn {X : Nat → Prop} (h : IMap P k w b f n) (k' : Turn X w w') (hb : ¬ X b) : IMap P k w' b f n := by
  obtain ⟨D, ⟨es, clock, hh, F, hs, hD⟩, r⟩ := h
  exact ⟨D, ⟨es, clock, At.turn (w := w) (w' := w') hh k' hb, F, hs, hD⟩, r⟩

theorem IMap.look (h : IMap P k w b f n) (K : Keyed P k) (hk : P.underlying k = some (.int .i64)) (ht : P.underlying t = some (.map k e)) {z : Value} (hz : (zeroValue e).run P w = .ok z w) (hw : (Lit.int .i64 i).wf = true) :
    (Instr.lookup t (.map (some b)) (.int .i64 i) true).run P w = .ok (.tuple #[(f i).getD z, .bool (f i).isSome]) w := by
  obtain ⟨D, ho, _, hh, ha⟩ := h
  obtain ⟨v, ps, hrun, hv⟩ := ho.look_ok K ht hz (zd := .held z) (zp := []) rfl (keyOf_int_mk hk hw)
  rw [hrun, hh i]
  have hv' : DataW.held v = D.atKey (.int .i64 i) (.held z) := by
    simp only [hold, Option.some.injEq, Prod.mk.injEq] at hv
    exact hv.1
  cases hf : f i with
  | none =>
    rw [Maps.atKey_of_not_has (by rw [hh i, hf]; rfl)] at hv'
    injection hv' with hv'
    subst hv'
    rfl
  | some u =>
    rw [ha i u hf] at hv'
    injection hv' with hv'
    subst hv'
    rfl

theorem IMap.look1 (h : IMap P k w b f n) (K : Keyed P k) (hk : P.underlying k = some (.int .i64)) (ht : P.underlying t = some (.map k e)) {z : Value} (hz : (zeroValue e).run P w = .ok z w) (hw : (Lit.int .i64 i).wf = true) :
    (Instr.lookup t (.map (some b)) (.int .i64 i) false).run P w = .ok ((f i).getD z) w := by
  obtain ⟨D, ho, _, hh, ha⟩ := h
  obtain ⟨v, ps, hrun, hv⟩ := ho.lookup K ht hz (zd := .held z) (zp := []) rfl (keyOf_int_mk hk hw)
  rw [hrun]
  have hv' : DataW.held v = D.atKey (.int .i64 i) (.held z) := by
    simp only [hold, Option.some.injEq, Prod.mk.injEq] at hv
    exact hv.1
  cases hf : f i with
  | none =>
    rw [Maps.atKey_of_not_has (by rw [hh i, hf]; rfl)] at hv'
    injection hv' with hv'
    subst hv'
    rfl
  | some u =>
    rw [ha i u hf] at hv'
    injection hv' with hv'
    subst hv'
    rfl

def put (f : Int → Option Value) (i : Int) (v : Value) : Int → Option Value := fun j => if j = i then some v else f j
def del (f : Int → Option Value) (i : Int) : Int → Option Value := fun j => if j = i then none else f j

theorem lit_ne {i j : Int} (h : j ≠ i) : (Lit.int .i64 j) ≠ Lit.int .i64 i := fun e => h (by injection e)
theorem isKey (i : Int) : WideAt.IsKeyLit (Lit.int .i64 i) := trivial

theorem IMap.store (h : IMap P k w b f n) (K : Keyed P k) (hk : P.underlying k = some (.int .i64)) (ht : P.underlying t = some (.map k e)) (hn : n < 1000000) (hw : (Lit.int .i64 i).wf = true) (v : Value) :
    ∃ w', (Instr.mapUpdate t (.map (some b)) (.int .i64 i) v).run P w = .ok () w' ∧ IMap P k w' b (put f i v) (if (f i).isSome then n else n + 1) ∧ Turn (· = b) w w' := by
  obtain ⟨D, ho, hs, hh, ha⟩ := h
  obtain ⟨w', hrun, ho', ht'⟩ := ho.store K ht (by unfold maxLen; omega) (keyOf_int_mk hk hw) (val := v) (d := .held v) (ps := []) rfl
  have htd := ho.tidy K
  have hsz : Maps.size (D.put (.int .i64 i) (.held v)) = if (f i).isSome then n else n + 1 := by rw [Maps.size_put htd, hh i, hs]
  refine ⟨w', hrun, ⟨_, ?_, hsz, ?_, ?_⟩, (Turn.refl _ _).grown ht'.grown (fun j hj => Or.inl (by injection hj with hj; exact hj.symm))⟩
  · obtain ⟨es, clock, hb, F, _, hD⟩ := ho'
    refine ⟨es, clock, hb, F, ?_, hD⟩
    have e1 : Maps.size (D.put (.int .i64 i) (.held v)) = es.size := by rw [hD]; simp [Maps.size, length_sorted]
    rw [← hsz, e1]
    exact Nat.le_refl _
  · intro j
    by_cases hj : j = i
    · subst hj
      rw [Maps.has_put_same htd.isMap (isKey _)]
      simp [put]
    · rw [Maps.has_put_other (lit_ne hj), hh j]
      simp [put, hj]
  · intro j u hu z
    by_cases hj : j = i
    · subst hj
      rw [Maps.atKey_put_same htd.isMap (isKey _)]
      simp [put] at hu
      rw [hu]
    · rw [Maps.atKey_put_other (lit_ne hj)]
      exact ha j u (by simpa [put, hj] using hu) z

theorem IMap.drop (h : IMap P k w b f n) (K : Keyed P k) (hk : P.underlying k = some (.int .i64)) (ht : P.underlying t = some (.map k e)) (hw : (Lit.int .i64 i).wf = true) (ty : TypeId) :
    ∃ w', (Builtin.delete_ #[t, k] ty #[.map (some b), .int .i64 i]).run P w = .ok (.tuple #[]) w' ∧ IMap P k w' b (del f i) (if (f i).isSome then n - 1 else n) ∧ Turn (· = b) w w' := by
  obtain ⟨D, ho, hs, hh, ha⟩ := h
  obtain ⟨w', hrun, ho', ht'⟩ := ho.drop K ht (keyOf_int_mk hk hw) ty
  have htd := ho.tidy K
  have hsz : Maps.size (D.del (.int .i64 i)) = if (f i).isSome then n - 1 else n := by
    have h1 := Maps.size_del (k := .int .i64 i) htd
    rw [hh i, hs] at h1
    cases hf : (f i).isSome <;> simp [hf] at h1 ⊢ <;> omega
  refine ⟨w', hrun, ⟨_, ?_, hsz, ?_, ?_⟩, (Turn.refl _ _).grown ht'.grown (fun j hj => Or.inl (by injection hj with hj; exact hj.symm))⟩
  · obtain ⟨es, clock, hb, F, _, hD⟩ := ho'
    refine ⟨es, clock, hb, F, ?_, hD⟩
    have e1 : Maps.size (D.del (.int .i64 i)) = es.size := by rw [hD]; simp [Maps.size, length_sorted]
    rw [← hsz, e1]
    exact Nat.le_refl _
  · intro j
    by_cases hj : j = i
    · subst hj
      rw [Maps.has_del_same]
      simp [del]
    · rw [Maps.has_del_other (lit_ne hj), hh j]
      simp [del, hj]
  · intro j u hu z
    by_cases hj : j = i
    · subst hj
      simp [del] at hu
    · rw [Maps.atKey_del_other (lit_ne hj)]
      exact ha j u (by simpa [del, hj] using hu) z

theorem IMap.len (h : IMap P k w b f n) (ht : P.underlying t = some (.map k e)) (ty : TypeId) : (Builtin.len_ #[t] ty #[.map (some b)]).run P w = .ok (.int .i64 n) w := by
  obtain ⟨D, ho, hs, _⟩ := h
  rw [ho.len ht ty, hs]
end
end Go.Proofs.YtfplnobnmgbgoaaDoor
namespace Go.Proofs.YtfplnobnmgbgoaaDoor

/-- The set whose words are F. -/
def bitAt (F : List Nat) (x : Nat) : Bool := (F.getD (x / 64) 0).testBit (x % 64)

theorem lt_of_bit {v j : Nat} (hv : v < 18446744073709551616) (h : v.testBit j = true) : j < 64 := by
  rcases Nat.lt_or_ge j 64 with h1 | h1
  · exact h1
  · have : v < 2 ^ j := Nat.lt_of_lt_of_le hv (by
      have := Nat.pow_le_pow_right (n := 2) (by omega) h1
      simpa using this)
    rw [Nat.testBit_lt_two_pow this] at h
    cases h

theorem low_form (v : Nat) (h0 : v ≠ 0) (hv : v < 18446744073709551616) : ∃ m, v = 2 ^ (Lib.ctz 64 v + 1) * m + 2 ^ Lib.ctz 64 v ∧ Lib.ctz 64 v < 64 := by
  have e : Lib.ctz 64 v = Lib.ctzFrom 64 v := by simp [Lib.ctz, h0]
  obtain ⟨m, hm, hk⟩ := Lib.ctzFrom_spec 64 v (by omega) (by simpa using hv)
  refine ⟨m, ?_, by rw [e]; exact hk⟩
  rw [e, Nat.pow_succ]
  generalize 2 ^ Lib.ctzFrom 64 v = q at hm ⊢
  rw [hm, Nat.mul_add, Nat.mul_one, Nat.mul_assoc]

theorem low_bit (v : Nat) (h0 : v ≠ 0) (hv : v < 18446744073709551616) (j : Nat) : v.testBit j = (if j < Lib.ctz 64 v then false else if j = Lib.ctz 64 v then true else v.testBit j) := by
  obtain ⟨m, hm, hk⟩ := low_form v h0 hv
  generalize Lib.ctz 64 v = t at hm hk ⊢
  by_cases h1 : j < t
  · rw [if_pos h1, hm, Nat.testBit_two_pow_mul_add _ (Nat.pow_lt_pow_right (by omega) (by omega)), if_pos (by omega), Nat.testBit_two_pow]
    simp; omega
  · rw [if_neg h1]
    by_cases h2 : j = t
    · rw [if_pos h2]
      subst h2
      rw [hm, Nat.testBit_two_pow_mul_add _ (Nat.pow_lt_pow_right (by omega) (by omega)), if_pos (by omega), Nat.testBit_two_pow]
      simp
    · rw [if_neg h2]

theorem strike_low (v : Nat) (h0 : v ≠ 0) (hv : v < 18446744073709551616) (j : Nat) : (v &&& (v - 1)).testBit j = (v.testBit j && j != Lib.ctz 64 v) := by
  obtain ⟨m, hm, hk⟩ := low_form v h0 hv
  have hlow := low_bit v h0 hv j
  generalize Lib.ctz 64 v = t at hm hk hlow ⊢
  have hp : 0 < 2 ^ t := Nat.two_pow_pos t
  have hd : v - 1 = 2 ^ (t + 1) * m + (2 ^ t - 1) := by omega
  have hlt : 2 ^ t < 2 ^ (t + 1) := Nat.pow_lt_pow_right (by omega) (by omega)
  rw [Nat.testBit_and]
  rcases Nat.lt_trichotomy j t with h1 | h1 | h1
  · rw [if_pos h1] at hlow
    rw [hlow]; rfl
  · subst h1
    have e2 : (v - 1).testBit j = false := by
      rw [hd, Nat.testBit_two_pow_mul_add _ (by omega), if_pos (by omega), Nat.testBit_two_pow_sub_one]
      simp
    rw [e2]
    simp
  · have e1 : v.testBit j = m.testBit (j - (t + 1)) := by
      rw [hm, Nat.testBit_two_pow_mul_add _ (by omega), if_neg (by omega)]
    have e2 : (v - 1).testBit j = m.testBit (j - (t + 1)) := by
      rw [hd, Nat.testBit_two_pow_mul_add _ (by omega), if_neg (by omega)]
    have e3 : (j != t) = true := by simp; omega
    rw [e1, e2, e3]
    simp

theorem and_lt (v u : Nat) (hv : v < 18446744073709551616) : v &&& u < 18446744073709551616 := Nat.lt_of_le_of_lt Nat.and_le_left hv
theorem set_lt (v t : Nat) (hv : v < 18446744073709551616) (ht : t < 64) : v ||| 2 ^ t < 18446744073709551616 := by
  have := Nat.or_lt_two_pow (n := 64) (x := v) (y := 2 ^ t) (by simpa using hv) (Nat.pow_lt_pow_right (by omega) ht)
  simpa using this
theorem set_bit (v t j : Nat) : (v ||| 2 ^ t).testBit j = (v.testBit j || j == t) := by
  rw [Nat.testBit_or, Nat.testBit_two_pow]
  by_cases h : t = j
  · subst h; simp
  · have h' : ¬ j = t := fun e => h e.symm
    simp [h, h']

theorem getD_set (F : List Nat) (i u k : Nat) (hi : i < F.length) : (F.set i u).getD k 0 = if k = i then u else F.getD k 0 := by
  simp only [List.getD_eq_getElem?_getD, List.getElem?_set]
  by_cases h : k = i
  · subst h; simp [hi]
  · have : ¬ i = k := fun e => h e.symm
    simp [h, this]

/-- The word of x with x's bit set. -/
theorem bitAt_set (F : List Nat) (x y : Nat) (hx : x / 64 < F.length) : bitAt (F.set (x / 64) (F.getD (x / 64) 0 ||| 2 ^ (x % 64))) y = (bitAt F y || y == x) := by
  unfold bitAt
  rw [getD_set F _ _ _ hx]
  by_cases h : y / 64 = x / 64
  · rw [if_pos h, set_bit, h]
    have : (y % 64 == x % 64) = (y == x) := by
      rw [Bool.eq_iff_iff]; simp; omega
    rw [this]
  · rw [if_neg h]
    have : (y == x) = false := by simp; intro e; exact h (by rw [e])
    rw [this, Bool.or_false]

/-- The first word that is not 0, its lowest bit struck: the least of the set is gone. -/
theorem bitAt_strike (F : List Nat) (i y : Nat) (hi : i < F.length) (h0 : F.getD i 0 ≠ 0) (hv : F.getD i 0 < 18446744073709551616) :
    bitAt (F.set i (F.getD i 0 &&& (F.getD i 0 - 1))) y = (bitAt F y && y != i * 64 + Lib.ctz 64 (F.getD i 0)) := by
  obtain ⟨_, _, hk⟩ := low_form _ h0 hv
  unfold bitAt
  rw [getD_set F _ _ _ hi]
  by_cases h : y / 64 = i
  · rw [if_pos h, strike_low _ h0 hv, h]
    have : (y % 64 != Lib.ctz 64 (F.getD i 0)) = (y != i * 64 + Lib.ctz 64 (F.getD i 0)) := by
      rw [Bool.eq_iff_iff]; simp; omega
    rw [this]
  · rw [if_neg h]
    have : (y != i * 64 + Lib.ctz 64 (F.getD i 0)) = true := by rw [bne_iff_ne]; omega
    rw [this, Bool.and_true]

/-- Where the least of the set stands. -/
theorem least_at (F : List Nat) (s : Nat) (hF : ∀ x ∈ F, x < 18446744073709551616) (hs : bitAt F s = true) (hl : ∀ y, y < s → bitAt F y = false) :
    s / 64 < F.length ∧ (∀ j, j < s / 64 → F.getD j 0 = 0) ∧ F.getD (s / 64) 0 ≠ 0 ∧ Lib.ctz 64 (F.getD (s / 64) 0) = s % 64 := by
  have h1 : s / 64 < F.length := by
    rcases Nat.lt_or_ge (s / 64) F.length with h | h
    · exact h
    · unfold bitAt at hs
      rw [List.getD_eq_getElem?_getD, List.getElem?_eq_none h] at hs
      simp at hs
  have hlt : ∀ j, F.getD j 0 < 18446744073709551616 := fun j => by
    rw [List.getD_eq_getElem?_getD]
    rcases Nat.lt_or_ge j F.length with h | h
    · rw [List.getElem?_eq_getElem h]; exact hF _ (List.getElem_mem h)
    · rw [List.getElem?_eq_none h]; simp
  have h2 : F.getD (s / 64) 0 ≠ 0 := fun e => by
    unfold bitAt at hs
    rw [e] at hs
    simp at hs
  refine ⟨h1, fun j hj => ?_, h2, ?_⟩
  · apply Nat.eq_of_testBit_eq
    intro t
    simp only [Nat.zero_testBit]
    cases ht : (F.getD j 0).testBit t with
    | false => rfl
    | true =>
      have h64 := lt_of_bit (hlt j) ht
      have := hl (j * 64 + t) (by omega)
      unfold bitAt at this
      rw [show (j * 64 + t) / 64 = j by omega, show (j * 64 + t) % 64 = t by omega, ht] at this
      cases this
  · obtain ⟨m, hm, hk⟩ := low_form _ h2 (hlt _)
    rcases Nat.lt_trichotomy (Lib.ctz 64 (F.getD (s / 64) 0)) (s % 64) with h | h | h
    · have e := low_bit _ h2 (hlt _) (Lib.ctz 64 (F.getD (s / 64) 0))
      rw [if_neg (by omega), if_pos rfl] at e
      have := hl (s / 64 * 64 + Lib.ctz 64 (F.getD (s / 64) 0)) (by omega)
      unfold bitAt at this
      generalize Lib.ctz 64 (F.getD (s / 64) 0) = c at this e hk h
      rw [show (s / 64 * 64 + c) / 64 = s / 64 by omega, show (s / 64 * 64 + c) % 64 = c by omega, e] at this
      cases this
    · exact h
    · have e := low_bit _ h2 (hlt _) (s % 64)
      rw [if_pos h] at e
      unfold bitAt at hs
      rw [e] at hs
      cases hs

theorem none_at (F : List Nat) (hF : ∀ x ∈ F, x < 18446744073709551616) (hl : ∀ y, bitAt F y = false) (j : Nat) : F.getD j 0 = 0 := by
  have hlt : F.getD j 0 < 18446744073709551616 := by
    rw [List.getD_eq_getElem?_getD]
    rcases Nat.lt_or_ge j F.length with h | h
    · rw [List.getElem?_eq_getElem h]; exact hF _ (List.getElem_mem h)
    · rw [List.getElem?_eq_none h]; simp
  apply Nat.eq_of_testBit_eq
  intro t
  simp only [Nat.zero_testBit]
  cases ht : (F.getD j 0).testBit t with
  | false => rfl
  | true =>
    have h64 := lt_of_bit hlt ht
    have := hl (j * 64 + t)
    unfold bitAt at this
    rw [show (j * 64 + t) / 64 = j by omega, show (j * 64 + t) % 64 = t by omega, ht] at this
    cases this

/-- How many of the numbers below n are in the set. -/
def cnt (p : Nat → Bool) : Nat → Nat
  | 0 => 0
  | n + 1 => cnt p n + (if p n then 1 else 0)

theorem cnt_congr {p q : Nat → Bool} : ∀ n, (∀ x, x < n → p x = q x) → cnt p n = cnt q n
  | 0, _ => rfl
  | n + 1, h => by rw [cnt, cnt, cnt_congr n (fun x hx => h x (by omega)), h n (by omega)]
theorem cnt_add (p : Nat → Bool) (a : Nat) : ∀ b, cnt p (a + b) = cnt p a + cnt (fun x => p (a + x)) b
  | 0 => rfl
  | b + 1 => by rw [← Nat.add_assoc, cnt, cnt, cnt_add p a b, Nat.add_assoc]
theorem cnt_le (p : Nat → Bool) : ∀ n, cnt p n ≤ n
  | 0 => Nat.le_refl _
  | n + 1 => by rw [cnt]; have := cnt_le p n; split <;> omega
theorem cnt_none (p : Nat → Bool) : ∀ n, (∀ x, x < n → p x = false) → cnt p n = 0
  | 0, _ => rfl
  | n + 1, h => by rw [cnt, cnt_none p n (fun x hx => h x (by omega)), h n (by omega)]; rfl
/-- One more, one less. -/
theorem cnt_in (p : Nat → Bool) (s : Nat) (hp : p s = false) : ∀ n, s < n → cnt (fun x => p x || x == s) n = cnt p n + 1
  | 0, h => by omega
  | n + 1, h => by
    rw [cnt, cnt]
    by_cases e : s = n
    · subst e
      rw [cnt_congr (p := fun x => p x || x == s) (q := p) s (fun x hx => by have : (x == s) = false := by simp; omega
                                                                             simp [this]), hp]
      simp
    · rw [cnt_in p s hp n (by omega)]
      have : (n == s) = false := by simp; omega
      simp only [this, Bool.or_false]
      omega
theorem cnt_out (p : Nat → Bool) (s : Nat) (hp : p s = true) : ∀ n, s < n → cnt (fun x => p x && x != s) n + 1 = cnt p n
  | 0, h => by omega
  | n + 1, h => by
    rw [cnt, cnt]
    by_cases e : s = n
    · subst e
      rw [cnt_congr (p := fun x => p x && x != s) (q := p) s (fun x hx => by have : (x != s) = true := by simp; omega
                                                                             simp [this]), hp]
      simp
    · have ih := cnt_out p s hp n (by omega)
      have : (n != s) = true := by simp; omega
      simp only [this, Bool.and_true]
      omega
theorem cnt_pos (p : Nat → Bool) : ∀ n, 0 < cnt p n → ∃ s, s < n ∧ p s = true ∧ ∀ y, y < s → p y = false
  | 0, h => by simp [cnt] at h
  | n + 1, h => by
    by_cases h0 : 0 < cnt p n
    · obtain ⟨s, h1, h2, h3⟩ := cnt_pos p n h0
      exact ⟨s, by omega, h2, h3⟩
    · refine ⟨n, by omega, ?_, ?_⟩
      · rw [cnt] at h
        cases hp : p n with
        | true => rfl
        | false => rw [hp] at h; simp at h; omega
      · intro y hy
        cases hp : p y with
        | false => rfl
        | true =>
          have := cnt_add p y (n - y)
          rw [show y + (n - y) = n by omega] at this
          have h1 := cnt_add (fun x => p (y + x)) 1 (n - y - 1)
          rw [show 1 + (n - y - 1) = n - y by omega] at h1
          simp [cnt, hp] at h1
          omega
theorem cnt_zero (p : Nat → Bool) (n : Nat) (h : cnt p n = 0) (x : Nat) (hx : x < n) : p x = false := by
  cases hp : p x with
  | false => rfl
  | true =>
    have := cnt_out p x hp n hx
    omega
end Go.Proofs.YtfplnobnmgbgoaaDoor
namespace Go.Proofs.YtfplnobnmgbgoaaDoor
open Go.RowKit
set_option linter.unusedVariables false
set_option maxRecDepth 20000

def u64s (l : List Nat) : Array Value := (l.map fun (x : Nat) => Value.int .u64 (x : Int)).toArray
theorem u64s_at (l : List Nat) (i : Nat) (h : i < l.length) : (u64s l)[i]? = some (.int .u64 (l.getD i 0 : Nat)) := by
  simp [u64s, h]
theorem u64s_set (l : List Nat) (i x : Nat) : (u64s l).setIfInBounds i (.int .u64 (x : Int)) = u64s (l.set i x) := by
  simp [u64s, List.map_set]

/-- A pool: its two slices' blocks, its slots' generations, and which slots are free. -/
def Pool (w : World) (pb gb fb : Nat) (G : List Nat) (fr : Nat → Bool) : Prop :=
  ∃ F : List Nat, At w pb (.cells #[.slice (some ⟨gb, 0, none⟩) G.length G.length, .slice (some ⟨fb, 0, none⟩) F.length F.length] 70 (0, 0)) ∧
    At w gb (.cells (u64s G) 68 (0, 0)) ∧ At w fb (.cells (u64s F) 68 (0, 0)) ∧ gb ≠ fb ∧
    (∀ x ∈ G, x < 18446744073709551616) ∧ (∀ x ∈ F, x < 18446744073709551616) ∧ F.length = (G.length + 63) / 64 ∧ 1 ≤ G.length ∧ G.length ≤ 4096 ∧ (∀ x, bitAt F x = fr x) ∧ ∀ x, fr x = true → x < G.length

theorem getD_lt {l : List Nat} (h : ∀ x ∈ l, x < 18446744073709551616) (i : Nat) : l.getD i 0 < 18446744073709551616 := by
  rw [List.getD_eq_getElem?_getD]
  rcases Nat.lt_or_ge i l.length with h1 | h1
  · rw [List.getElem?_eq_getElem h1]; exact h _ (List.getElem_mem h1)
  · rw [List.getElem?_eq_none h1]; simp
theorem set_all {l : List Nat} (h : ∀ x ∈ l, x < 18446744073709551616) (i u : Nat) (hu : u < 18446744073709551616) : ∀ x ∈ l.set i u, x < 18446744073709551616 := by
  intro x hx
  rcases List.mem_or_eq_of_mem_set hx with h1 | h1
  · exact h x h1
  · rw [h1]; exact hu

theorem Pool.lt {w : World} {pb gb fb : Nat} {G : List Nat} {fr : Nat → Bool} (h : Pool w pb gb fb G fr) : pb < w.heap.size ∧ gb < w.heap.size ∧ fb < w.heap.size := by
  obtain ⟨F, hp, hg, hf, _⟩ := h
  exact ⟨hp.lt, hg.lt, hf.lt⟩
theorem Pool.turn {X : Nat → Prop} {w w' : World} {pb gb fb : Nat} {G : List Nat} {fr : Nat → Bool} (h : Pool w pb gb fb G fr) (t : Turn X w w') (h1 : ¬ X pb) (h2 : ¬ X gb) (h3 : ¬ X fb) : Pool w' pb gb fb G fr := by
  obtain ⟨F, hp, hg, hf, r⟩ := h
  exact ⟨F, hp.turn t h1, hg.turn t h2, hf.turn t h3, r⟩

theorem setFree_w (pb fb s nf v : Nat) (w : World) (hs : s < 4096) (hn : s / 64 < nf) (hnf : nf ≤ 64)
    (h1 : w.cell? ⟨pb, 1, none⟩ = some (.slice (some ⟨fb, 0, none⟩) nf nf)) (h2 : w.cell? ⟨fb, s / 64, none⟩ = some (.int .u64 v)) (h3 : w.frozen? ⟨fb, s / 64, none⟩ = false) :
    Calls Tryd.prog 29 #[.pointer (some ⟨pb, 0, none⟩), .int .i64 s] w fun e w' => e = .returned (.tuple #[]) ∧ w' = (w.setCell ⟨fb, s / 64, none⟩ (.int .u64 (bits BinOp.or IntKind.u64 (v : Int) (IntKind.u64.wrap (2 ^ (s % 64)))))).drew := by
  have b1 : (0 : Int) ≤ (s : Int) := by omega
  have b2 : (0 : Int) ≤ (s : Int) / 64 := by omega
  have b3 : (s : Int) / 64 < (nf : Int) := by omega
  have b4 : (0 : Int) ≤ (s : Int) % 64 := by omega
  have b5 : (s : Int) % 64 < 64 := by omega
  go_enter Tryd.func29, Tryd.ntmps29
  go_wp2
  go_region
  all_goals go_wp2
  go_end0
  exact ⟨rfl, rfl⟩

theorem or_val (v t : Nat) (hv : v < 18446744073709551616) (ht : t < 64) : bits BinOp.or IntKind.u64 (v : Int) (IntKind.u64.wrap (2 ^ t)) = ((v ||| 2 ^ t : Nat) : Int) := by
  have h : 2 ^ t < 18446744073709551616 := by
    have := Nat.pow_lt_pow_right (a := 2) (by omega) ht
    simpa using this
  have e : IntKind.u64.wrap (2 ^ t) = ((2 ^ t : Nat) : Int) := by
    rw [IntKind.wrap_u64]
    have : ((2 : Int) ^ t) = ((2 ^ t : Nat) : Int) := by simp
    rw [this]
    generalize 2 ^ t = q at h
    omega
  rw [e, bits_or_u64_nat v _ hv h]

theorem setFree_any {pb gb fb s : Nat} {G : List Nat} {fr : Nat → Bool} {w : World} (h : Pool w pb gb fb G fr) (hs : s < G.length) :
    Calls Tryd.prog 29 #[.pointer (some ⟨pb, 0, none⟩), .int .i64 s] w fun e w' => e = .returned (.tuple #[]) ∧ Pool w' pb gb fb G (fun x => fr x || x == s) ∧ Turn (· = fb) w w' := by
  obtain ⟨F, hp, hg, hf, hne, hG, hF, hlen, h1, h2, hb, hlt⟩ := h
  have hn : s / 64 < F.length := by omega
  have hpf : pb ≠ fb := hp.ne hf (by intro e; injection e with _ e; cases e)
  refine (setFree_w pb fb s F.length (F.getD (s / 64) 0) w (by omega) hn (by omega) (hp.cell 1) ((hf.cell _).trans (u64s_at F _ hn)) (hf.thawed _)).mono ?_
  rintro e w' ⟨rfl, rfl⟩
  rw [or_val _ _ (getD_lt hF _) (by omega)]
  have t : Turn (· = fb) w (w.setCell ⟨fb, s / 64, none⟩ (.int .u64 (F.getD (s / 64) 0 ||| 2 ^ (s % 64) : Nat))).drew := ((Turn.refl (· = fb) w).setCell (p := ⟨fb, s / 64, none⟩) (Or.inl rfl) _).drew
  refine ⟨rfl, ⟨F.set (s / 64) (F.getD (s / 64) 0 ||| 2 ^ (s % 64)), ?_, hg.turn t hne, ?_, hne, hG, set_all hF _ _ (set_lt _ _ (getD_lt hF _) (by omega)), by simpa using hlen, h1, h2, ?_, ?_⟩, t⟩
  · have := hp.turn t hpf
    simpa using this
  · have := hf.set (s / 64) (.int .u64 (F.getD (s / 64) 0 ||| 2 ^ (s % 64) : Nat))
    rw [u64s_set] at this
    exact this
  · intro x
    rw [bitAt_set F s x hn, hb x]
  · intro x hx
    rcases Bool.or_eq_true_iff.1 hx with h | h
    · exact hlt x h
    · have : x = s := by simpa using h
      omega

theorem Pool.setGen {w : World} {pb gb fb : Nat} {G : List Nat} {fr : Nat → Bool} (h : Pool w pb gb fb G fr) (s u : Nat) (hu : u < 18446744073709551616) : Pool (w.setCell ⟨gb, s, none⟩ (.int .u64 (u : Int))) pb gb fb (G.set s u) fr := by
  obtain ⟨F, hp, hg, hf, hne, hG, hF, hlen, h1, h2, hb, hlt⟩ := h
  have t : Turn (· = gb) w (w.setCell ⟨gb, s, none⟩ (.int .u64 (u : Int))) := (Turn.refl (· = gb) w).setCell (p := ⟨gb, s, none⟩) (Or.inl rfl) _
  have hpg : pb ≠ gb := hp.ne hg (by intro e; injection e with _ e; cases e)
  refine ⟨F, ?_, ?_, hf.turn t (Ne.symm hne), hne, set_all hG _ _ hu, hF, by simpa using hlen, by simpa using h1, by simpa using h2, hb, by simpa using hlt⟩
  · have := hp.turn t hpg
    simpa using this
  · have := hg.set s (.int .u64 (u : Int))
    rw [u64s_set] at this
    exact this

theorem gen_val (g : Nat) : IntKind.u64.wrap ((g : Int) + 1) = (((g + 1) % 18446744073709551616 : Nat) : Int) := by
  rw [IntKind.wrap_u64]
  omega

theorem tz_core (v k idx : Nat) (w : World) (h0 : ((v : Int) == 0) = false)
    (key : IntKind.u64.wrap (bits BinOp.and IntKind.u64 (v : Int) (IntKind.u64.wrap (-(v : Int))) * 285870213051353865) / 288230376151711744 = (idx : Int))
    (hi : idx < 64) (hk : k < 64) (hc : w.cell? ⟨0, idx, none⟩ = some (.int .u8 k)) :
    Calls Tryd.prog 78 #[.int .u64 v] w fun e w' => e = .returned (.int .i64 k) ∧ w = w' := by
  go_enter Tryd.func78, Tryd.ntmps78
  go_wp2_with (simp only [key])
  go_ret
  exact ⟨rfl, rfl⟩

/-- The table of math/bits lies where it was laid. -/
def Tab (w : World) : Prop := ∀ j, j < 64 → w.cell? ⟨0, j, none⟩ = some (.int .u8 (Lib.deBruijn64tab.getD j 0 : Nat))
theorem Tab.turn {X : Nat → Prop} {w w' : World} (h : Tab w) (t : Turn X w w') (h0 : ¬ X 0) (hs : 0 < w.heap.size) : Tab w' := fun j hj => (World.cell?_of_block (w := w) (t.block 0 hs h0)).trans (h j hj)
theorem Tab.pos {w : World} (h : Tab w) : 0 < w.heap.size := by
  have := h 0 (by omega)
  unfold World.cell? at this
  rcases Nat.eq_zero_or_pos w.heap.size with h0 | h0
  · rw [Array.getElem?_eq_none (by simp [h0])] at this
    cases this
  · exact h0

theorem tz_any (v : Nat) (w : World) (h0 : v ≠ 0) (hv : v < 18446744073709551616) (hT : Tab w) :
    Calls Tryd.prog 78 #[.int .u64 v] w fun e w' => e = .returned (.int .i64 (Lib.ctz 64 v : Nat)) ∧ w = w' := by
  obtain ⟨hl, hk⟩ := Lib.lowest_bit 64 v h0 (by simpa using hv)
  obtain ⟨hi, ht⟩ := Lib.deBruijn64_at _ hk
  have hc := hT _ hi
  rw [ht] at hc
  refine tz_core v _ _ w (by simpa using h0) ?_ hi hk hc
  have e1 : IntKind.u64.wrap (-(v : Int)) = ((18446744073709551616 - v : Nat) : Int) := by rw [IntKind.wrap_u64]; omega
  rw [e1, bits_and_u64_nat v _ hv (by omega), show v &&& (18446744073709551616 - v) = 2 ^ Lib.ctz 64 v by simpa using hl, IntKind.wrap_u64]
  generalize 2 ^ Lib.ctz 64 v = q
  omega
end Go.Proofs.YtfplnobnmgbgoaaDoor
namespace Go.Proofs.YtfplnobnmgbgoaaDoor

def val : List Nat → Nat
  | [] => 0
  | d :: r => d + 256 * val r

theorem and_dig (d m y M : Nat) (hd : d < 256) (hm : m < 256) : (d + 256 * y) &&& (m + 256 * M) = (d &&& m) + 256 * (y &&& M) := by
  have e1 : ((d + 256 * y) &&& (m + 256 * M)) % 2 ^ 8 = d &&& m := by
    rw [Nat.and_mod_two_pow]
    rw [show (d + 256 * y) % 2 ^ 8 = d by omega, show (m + 256 * M) % 2 ^ 8 = m by omega]
  have e2 : ((d + 256 * y) &&& (m + 256 * M)) / 2 ^ 8 = y &&& M := by
    rw [Nat.and_div_two_pow]
    rw [show (d + 256 * y) / 2 ^ 8 = y by omega, show (m + 256 * M) / 2 ^ 8 = M by omega]
  omega

theorem and_high (a b m k : Nat) (ha : a < 2 ^ k) (hm : m < 2 ^ k) : (a + 2 ^ k * b) &&& m = a &&& m := by
  have h1 : (a + 2 ^ k * b) &&& m ≤ m := Nat.and_le_right
  have h2 := Nat.and_mod_two_pow (a := a + 2 ^ k * b) (b := m) (n := k)
  rw [Nat.mod_eq_of_lt (Nat.lt_of_le_of_lt h1 hm), Nat.add_mul_mod_self_left, Nat.mod_eq_of_lt ha, Nat.mod_eq_of_lt hm] at h2
  exact h2

def g1 (d : Nat) : Nat := (d / 2 &&& 85) + (d &&& 85)
def g2 (d : Nat) : Nat := (d / 4 &&& 51) + (d &&& 51)
def g3 (d : Nat) : Nat := d % 16 + d / 16

theorem step1 : ∀ ds : List Nat, (∀ d ∈ ds, d < 256) → (val ds / 2 &&& val (List.replicate ds.length 85)) + (val ds &&& val (List.replicate ds.length 85)) = val (ds.map g1)
  | [], _ => rfl
  | d :: r, h => by
    have hd := h d (by simp)
    have ih := step1 r (fun x hx => h x (by simp [hx]))
    simp only [List.length_cons, List.replicate_succ, val, List.map_cons]
    rw [show (d + 256 * val r) / 2 = (d / 2 + 2 ^ 7 * (val r % 2)) + 256 * (val r / 2) by omega, and_dig _ _ _ _ (by omega) (by omega), and_dig _ _ _ _ hd (by omega), and_high _ _ _ 7 (by omega) (by omega)]
    have hg : g1 d = (d / 2 &&& 85) + (d &&& 85) := rfl
    omega

theorem step2 : ∀ ds : List Nat, (∀ d ∈ ds, d < 256) → (val ds / 4 &&& val (List.replicate ds.length 51)) + (val ds &&& val (List.replicate ds.length 51)) = val (ds.map g2)
  | [], _ => rfl
  | d :: r, h => by
    have hd := h d (by simp)
    have ih := step2 r (fun x hx => h x (by simp [hx]))
    simp only [List.length_cons, List.replicate_succ, val, List.map_cons]
    rw [show (d + 256 * val r) / 4 = (d / 4 + 2 ^ 6 * (val r % 4)) + 256 * (val r / 4) by omega, and_dig _ _ _ _ (by omega) (by omega), and_dig _ _ _ _ hd (by omega), and_high _ _ _ 6 (by omega) (by omega)]
    have hg : g2 d = (d / 4 &&& 51) + (d &&& 51) := rfl
    omega

theorem low_of_val : ∀ ds : List Nat, (∀ d ∈ ds, d % 16 ≤ 4 ∧ d / 16 ≤ 4) → val ds % 16 ≤ 4
  | [], _ => by simp [val]
  | d :: r, h => by
    have := h d (by simp)
    simp only [val]
    omega

theorem and15 (x : Nat) : x &&& 15 = x % 16 := by
  have := Nat.and_two_pow_sub_one_eq_mod x 4
  simpa using this

theorem step3 : ∀ ds : List Nat, (∀ d ∈ ds, d % 16 ≤ 4 ∧ d / 16 ≤ 4) → (val ds / 16 + val ds) &&& val (List.replicate ds.length 15) = val (ds.map g3)
  | [], _ => rfl
  | d :: r, h => by
    have hd := h d (by simp)
    have hr : ∀ x ∈ r, x % 16 ≤ 4 ∧ x / 16 ≤ 4 := fun x hx => h x (by simp [hx])
    have ih := step3 r hr
    have hl := low_of_val r hr
    simp only [List.length_cons, List.replicate_succ, val, List.map_cons]
    rw [show (d + 256 * val r) / 16 + (d + 256 * val r) = (d / 16 + d + 16 * (val r % 16)) + 256 * (val r / 16 + val r) by omega, and_dig _ _ _ _ (by omega) (by omega), and15, ih]
    unfold g3
    omega

theorem byte_ok : ∀ d, d < 256 → g1 d < 256 ∧ (g2 (g1 d)) % 16 ≤ 4 ∧ (g2 (g1 d)) / 16 ≤ 4 ∧ g3 (g2 (g1 d)) = cnt d.testBit 8 := by decide +kernel

theorem cnt_val (d y k : Nat) (hd : d < 256) : cnt (d + 256 * y).testBit (8 + k) = cnt d.testBit 8 + cnt y.testBit k := by
  rw [cnt_add]
  have h : ∀ j, (d + 256 * y).testBit j = if j < 8 then d.testBit j else y.testBit (j - 8) := fun j => by
    rw [show d + 256 * y = 2 ^ 8 * y + d by omega]
    exact Nat.testBit_two_pow_mul_add _ (by omega) _
  rw [cnt_congr (q := d.testBit) 8 (fun x hx => by rw [h, if_pos hx]), cnt_congr (p := fun x => (d + 256 * y).testBit (8 + x)) (q := y.testBit) k (fun x hx => by rw [h, if_neg (by omega), show 8 + x - 8 = x by omega])]

theorem cutd (v k : Nat) (hv : v < 256 * k) : ∃ a r, a < 256 ∧ r < k ∧ v = a + 256 * r := ⟨v % 256, v / 256, by omega, by omega, by omega⟩

theorem digits (v : Nat) (hv : v < 18446744073709551616) : ∃ a b c d e f g h : Nat, a < 256 ∧ b < 256 ∧ c < 256 ∧ d < 256 ∧ e < 256 ∧ f < 256 ∧ g < 256 ∧ h < 256 ∧ v = val [a, b, c, d, e, f, g, h] := by
  obtain ⟨a, r1, ha, h1, rfl⟩ := cutd v 72057594037927936 (by omega)
  obtain ⟨b, r2, hb, h2, rfl⟩ := cutd r1 281474976710656 (by omega)
  obtain ⟨c, r3, hc, h3, rfl⟩ := cutd r2 1099511627776 (by omega)
  obtain ⟨d, r4, hd, h4, rfl⟩ := cutd r3 4294967296 (by omega)
  obtain ⟨e, r5, he, h5, rfl⟩ := cutd r4 16777216 (by omega)
  obtain ⟨f, r6, hf, h6, rfl⟩ := cutd r5 65536 (by omega)
  obtain ⟨g, r7, hg, h7, rfl⟩ := cutd r6 256 (by omega)
  exact ⟨a, b, c, d, e, f, g, r7, ha, hb, hc, hd, he, hf, hg, h7, rfl⟩

theorem val_lt : ∀ ds : List Nat, (∀ d ∈ ds, d < 256) → val ds < 256 ^ ds.length
  | [], _ => by simp [val]
  | d :: r, h => by
    have hd := h d (by simp)
    have ih := val_lt r (fun x hx => h x (by simp [hx]))
    simp only [val, List.length_cons, Nat.pow_succ]
    omega
theorem val_half : ∀ ds : List Nat, (∀ d ∈ ds, d < 128) → 2 * val ds < 256 ^ ds.length
  | [], _ => by simp [val]
  | d :: r, h => by
    have hd := h d (by simp)
    have ih := val_half r (fun x hx => h x (by simp [hx]))
    simp only [val, List.length_cons, Nat.pow_succ]
    omega

theorem val_div (d : Nat) (r : List Nat) (h : d < 256) : val (d :: r) / 256 = val r := by
  show (d + 256 * val r) / 256 = val r
  generalize val r = q
  omega

theorem fold_sum (a b c d e f g h : Nat) (ha : a ≤ 8) (hb : b ≤ 8) (hc : c ≤ 8) (hd : d ≤ 8) (he : e ≤ 8) (hf : f ≤ 8) (hg : g ≤ 8) (hh : h ≤ 8) (y y1 y2 : Nat) (hy : y = val [a, b, c, d, e, f, g, h])
    (h1 : y1 = y + y / 256) (h2 : y2 = y1 + y1 / 65536) : y < 1152921504606846976 ∧ y1 < 2305843009213693952 ∧ y2 < 4611686018427387904 ∧ (y2 + y2 / 4294967296) % 128 = a + b + c + d + e + f + g + h := by
  have e1 : y / 256 = val [b, c, d, e, f, g, h] := by rw [hy]; exact val_div _ _ (by omega)
  have f1 : y1 = val [a + b, b + c, c + d, d + e, e + f, f + g, g + h, h] := by rw [h1, e1, hy]; simp only [val]; omega
  have e2 : y1 / 65536 = val [c + d, d + e, e + f, f + g, g + h, h] := by
    rw [show (65536 : Nat) = 256 * 256 by rfl, ← Nat.div_div_eq_div_mul, f1, val_div _ _ (by omega), val_div _ _ (by omega)]
  have f2 : y2 = val [a + b + c + d, b + c + d + e, c + d + e + f, d + e + f + g, e + f + g + h, f + g + h, g + h, h] := by rw [h2, e2, f1]; simp only [val]; omega
  have e3 : y2 / 4294967296 = val [e + f + g + h, f + g + h, g + h, h] := by
    rw [show (4294967296 : Nat) = 256 * 256 * 256 * 256 by rfl, ← Nat.div_div_eq_div_mul, ← Nat.div_div_eq_div_mul, ← Nat.div_div_eq_div_mul, f2, val_div _ _ (by omega), val_div _ _ (by omega), val_div _ _ (by omega), val_div _ _ (by omega)]
  refine ⟨by rw [hy]; simp only [val]; omega, by rw [f1]; simp only [val]; omega, by rw [f2]; simp only [val]; omega, ?_⟩
  rw [e3, f2]
  generalize hP : val [b + c + d + e, c + d + e + f, d + e + f + g, e + f + g + h, f + g + h, g + h, h] = p
  generalize hQ : val [f + g + h, g + h, h] = q
  have hl : val [a + b + c + d, b + c + d + e, c + d + e + f, d + e + f + g, e + f + g + h, f + g + h, g + h, h] = (a + b + c + d) + 256 * p := by rw [← hP]; rfl
  have hr : val [e + f + g + h, f + g + h, g + h, h] = (e + f + g + h) + 256 * q := by rw [← hQ]; rfl
  rw [hl, hr]
  clear hP hQ hl hr e1 e2 e3 f1 f2 h1 h2 hy
  omega

theorem pow8 : 256 ^ 8 = 18446744073709551616 := by decide
theorem rep85 : val (List.replicate 8 85) = 6148914691236517205 := by decide
theorem rep51 : val (List.replicate 8 51) = 3689348814741910323 := by decide
theorem rep15 : val (List.replicate 8 15) = 1085102592571150095 := by decide
/-- What math/bits reckons. -/
theorem ones_math (v : Nat) (hv : v < 18446744073709551616) : ∃ x1 x2 x3 : Nat, x1 = (v / 2 &&& 6148914691236517205) + (v &&& 6148914691236517205) ∧ x1 < 18446744073709551616 ∧ x2 = (x1 / 4 &&& 3689348814741910323) + (x1 &&& 3689348814741910323) ∧ x2 < 9223372036854775808 ∧
    x3 = (x2 / 16 + x2) &&& 1085102592571150095 ∧ x3 < 1152921504606846976 ∧ (x3 + x3 / 256) < 2305843009213693952 ∧ (x3 + x3 / 256) + (x3 + x3 / 256) / 65536 < 4611686018427387904 ∧
    (((x3 + x3 / 256) + (x3 + x3 / 256) / 65536) + ((x3 + x3 / 256) + (x3 + x3 / 256) / 65536) / 4294967296) % 128 = cnt v.testBit 64 := by
  obtain ⟨a, b, c, d, e, f, g, h, ha, hb, hc, hd, he, hf, hg, hh, rfl⟩ := digits v hv
  obtain ⟨a1, a2, a3, a4⟩ := byte_ok a ha
  obtain ⟨b1, b2, b3, b4⟩ := byte_ok b hb
  obtain ⟨c1, c2, c3, c4⟩ := byte_ok c hc
  obtain ⟨d1, d2, d3, d4⟩ := byte_ok d hd
  obtain ⟨e1, e2, e3, e4⟩ := byte_ok e he
  obtain ⟨f1, f2, f3, f4⟩ := byte_ok f hf
  obtain ⟨p1, p2, p3, p4⟩ := byte_ok g hg
  obtain ⟨q1, q2, q3, q4⟩ := byte_ok h hh
  have s1 := step1 [a, b, c, d, e, f, g, h] (by simp; omega)
  have s2 := step2 [g1 a, g1 b, g1 c, g1 d, g1 e, g1 f, g1 g, g1 h] (by simp; omega)
  have s3 := step3 [g2 (g1 a), g2 (g1 b), g2 (g1 c), g2 (g1 d), g2 (g1 e), g2 (g1 f), g2 (g1 g), g2 (g1 h)] (by simp; omega)
  rw [show val (List.replicate [a, b, c, d, e, f, g, h].length 85) = 6148914691236517205 from rep85] at s1
  rw [show val (List.replicate [g1 a, g1 b, g1 c, g1 d, g1 e, g1 f, g1 g, g1 h].length 51) = 3689348814741910323 from rep51] at s2
  rw [show val (List.replicate [g2 (g1 a), g2 (g1 b), g2 (g1 c), g2 (g1 d), g2 (g1 e), g2 (g1 f), g2 (g1 g), g2 (g1 h)].length 15) = 1085102592571150095 from rep15] at s3
  simp only [List.map_cons, List.map_nil] at s1 s2 s3
  have hcnt : cnt (val [a, b, c, d, e, f, g, h]).testBit 64 = cnt a.testBit 8 + (cnt b.testBit 8 + (cnt c.testBit 8 + (cnt d.testBit 8 + (cnt e.testBit 8 + (cnt f.testBit 8 + (cnt g.testBit 8 + (cnt h.testBit 8 + 0))))))) := by
    show cnt (a + 256 * val [b, c, d, e, f, g, h]).testBit (8 + 56) = _
    rw [cnt_val _ _ _ ha]
    show _ + cnt (b + 256 * val [c, d, e, f, g, h]).testBit (8 + 48) = _
    rw [cnt_val _ _ _ hb]
    show _ + (_ + cnt (c + 256 * val [d, e, f, g, h]).testBit (8 + 40)) = _
    rw [cnt_val _ _ _ hc]
    show _ + (_ + (_ + cnt (d + 256 * val [e, f, g, h]).testBit (8 + 32))) = _
    rw [cnt_val _ _ _ hd]
    show _ + (_ + (_ + (_ + cnt (e + 256 * val [f, g, h]).testBit (8 + 24)))) = _
    rw [cnt_val _ _ _ he]
    show _ + (_ + (_ + (_ + (_ + cnt (f + 256 * val [g, h]).testBit (8 + 16))))) = _
    rw [cnt_val _ _ _ hf]
    show _ + (_ + (_ + (_ + (_ + (_ + cnt (g + 256 * val [h]).testBit (8 + 8)))))) = _
    rw [cnt_val _ _ _ hg]
    show _ + (_ + (_ + (_ + (_ + (_ + (_ + cnt (h + 256 * val []).testBit (8 + 0))))))) = _
    rw [cnt_val _ _ _ hh]
    rfl
  have la := cnt_le a.testBit 8
  have lb := cnt_le b.testBit 8
  have lc := cnt_le c.testBit 8
  have ld := cnt_le d.testBit 8
  have le := cnt_le e.testBit 8
  have lf := cnt_le f.testBit 8
  have lg := cnt_le g.testBit 8
  have lh := cnt_le h.testBit 8
  rw [a4, b4, c4, d4, e4, f4, p4, q4] at s3
  rw [hcnt]
  obtain ⟨r1, r2, r3, r4⟩ := fold_sum _ _ _ _ _ _ _ _ la lb lc ld le lf lg lh _ _ _ rfl rfl rfl
  have m1 : val [g1 a, g1 b, g1 c, g1 d, g1 e, g1 f, g1 g, g1 h] < 18446744073709551616 := Nat.lt_of_lt_of_eq (val_lt [g1 a, g1 b, g1 c, g1 d, g1 e, g1 f, g1 g, g1 h] (by simp; omega)) pow8
  have m2 : 2 * val [g2 (g1 a), g2 (g1 b), g2 (g1 c), g2 (g1 d), g2 (g1 e), g2 (g1 f), g2 (g1 g), g2 (g1 h)] < 18446744073709551616 := Nat.lt_of_lt_of_eq (val_half [g2 (g1 a), g2 (g1 b), g2 (g1 c), g2 (g1 d), g2 (g1 e), g2 (g1 f), g2 (g1 g), g2 (g1 h)] (by simp; omega)) pow8
  refine ⟨_, _, _, s1.symm, m1, s2.symm, ?_, s3.symm, r1, r2, r3, ?_⟩
  · clear s1 s2 s3 r4 hcnt
    generalize val [g2 (g1 a), g2 (g1 b), g2 (g1 c), g2 (g1 d), g2 (g1 e), g2 (g1 f), g2 (g1 g), g2 (g1 h)] = q at m2 ⊢
    omega
  · rw [r4]
    simp only [Nat.add_assoc, Nat.add_zero]
end Go.Proofs.YtfplnobnmgbgoaaDoor
namespace Go.Proofs.YtfplnobnmgbgoaaDoor
open Go.RowKit
set_option linter.unusedVariables false
set_option maxRecDepth 20000

theorem take_w (pb gb fb i c nf ng v g : Nat) (w : World) (hs : i * 64 + c < ng) (hng : ng ≤ 4096) (hi : i < nf) (hnf : nf ≤ 64) (hv0 : ((v : Int) != 0) = true)
    (h0 : w.cell? ⟨pb, 0, none⟩ = some (.slice (some ⟨gb, 0, none⟩) ng ng)) (h1 : w.cell? ⟨pb, 1, none⟩ = some (.slice (some ⟨fb, 0, none⟩) nf nf))
    (hz : Hid (∀ j, j < i → w.cell? ⟨fb, j, none⟩ = some (.int .u64 0))) (hv : w.cell? ⟨fb, i, none⟩ = some (.int .u64 v)) (hfz : w.frozen? ⟨fb, i, none⟩ = false)
    (hg : w.cell? ⟨gb, i * 64 + c, none⟩ = some (.int .u64 g)) (n1 : gb ≠ fb) (n2 : pb ≠ fb) (l1 : pb < w.heap.size) (l2 : gb < w.heap.size) (l3 : fb < w.heap.size)
    (TZ : Hid (∀ w1, Turn (· = fb) w w1 → Calls Tryd.prog 78 #[.int .u64 v] w1 fun e w2 => e = .returned (.int .i64 (c : Int)) ∧ w1 = w2)) :
    Calls Tryd.prog 56 #[.pointer (some ⟨pb, 0, none⟩)] w fun e w' => e = .returned (.tuple #[.agg #[.int .i64 ((i * 64 + c : Nat) : Int), .int .u64 g], .bool true]) ∧
      w' = (w.setCell ⟨fb, i, none⟩ (.int .u64 (bits BinOp.and IntKind.u64 (v : Int) (IntKind.u64.wrap ((v : Int) - 1))))).alloc (.cells #[.int .i64 ((i : Int) * 64 + (c : Int)), .int .u64 (g : Int)] 77) := by
  have n3 := Ne.symm n1
  have n4 := Ne.symm n2
  have b1 : (0 : Int) ≤ (i : Int) * 64 + (c : Int) := by omega
  have b2 : (i : Int) * 64 + (c : Int) < (ng : Int) := by omega
  go_enter Tryd.func56, Tryd.ntmps56
  go_wp2_with fail
  go_loop [15] (fun k => ∃ j : Nat, j ≤ i ∧ k = .int .i64 j) (fun k => i - (intOf k).toNat)
  case atStart => exact ⟨0, Nat.zero_le _, rfl⟩
  case round =>
    obtain ⟨j, hj, rfl⟩ := hrel
    by_cases hlt : j < i
    · have hcell := hz.out j hlt
      have hjn : (j : Int) < (nf : Int) := by omega
      go_wp2_with fail
      go_round
      case rel => exact ⟨j + 1, by omega, by go_num⟩
      case measure => simp [intOf]; omega
    · obtain rfl : j = i := by omega
      have hjn : (j : Int) < (nf : Int) := by omega
      go_wp2_with fail
      refine (TZ.out _ (((Turn.refl (· = fb) w).setCell (p := ⟨fb, j, none⟩) (Or.inl rfl) _).alloc _)).mono ?_
      rintro e w1 ⟨rfl, rfl⟩
      go_wp2_with fail
      exact bodyPost_ret (v := .tuple #[.agg #[.int .i64 ((j * 64 + c : Nat) : Int), .int .u64 g], .bool true]) (by simp [results, Tryd.results56, go_sem]) rfl ⟨rfl, rfl⟩

theorem take_none_w (pb fb nf : Nat) (w : World) (hnf : nf ≤ 64)
    (h1 : w.cell? ⟨pb, 1, none⟩ = some (.slice (some ⟨fb, 0, none⟩) nf nf)) (hz : Hid (∀ j, j < nf → w.cell? ⟨fb, j, none⟩ = some (.int .u64 0))) (l1 : pb < w.heap.size) (l3 : fb < w.heap.size) :
    Calls Tryd.prog 56 #[.pointer (some ⟨pb, 0, none⟩)] w fun e w' => e = .returned (.tuple #[.agg #[.int .i64 0, .int .u64 0], .bool false]) ∧ w' = w.alloc (.cells #[.int .i64 0, .int .u64 0] 77) := by
  go_enter Tryd.func56, Tryd.ntmps56
  go_wp2_with fail
  go_loop [15] (fun k => ∃ j : Nat, j ≤ nf ∧ k = .int .i64 j) (fun k => nf - (intOf k).toNat)
  case atStart => exact ⟨0, Nat.zero_le _, rfl⟩
  case round =>
    obtain ⟨j, hj, rfl⟩ := hrel
    by_cases hlt : j < nf
    · have hcell := hz.out j hlt
      have hjn : (j : Int) < (nf : Int) := by omega
      go_wp2_with fail
      go_round
      case rel => exact ⟨j + 1, by omega, by go_num⟩
      case measure => simp [intOf]; omega
    · have hjn : ¬ (j : Int) < (nf : Int) := by omega
      go_wp2_with fail
      exact bodyPost_ret (v := .tuple #[.agg #[.int .i64 0, .int .u64 0], .bool false]) (by simp [results, Tryd.results56, go_sem]) rfl ⟨rfl, rfl⟩

theorem Pool.ne0 {w : World} {pb gb fb : Nat} {G : List Nat} {fr : Nat → Bool} (h : Pool w pb gb fb G fr) (hT : Tab w) : gb ≠ 0 ∧ fb ≠ 0 ∧ pb ≠ 0 := by
  obtain ⟨F, hp, hg, hf, hne, hG, hF, hlen, h1, h2, hb, hlt⟩ := h
  have t := hT 0 (by omega)
  refine ⟨?_, ?_, ?_⟩
  · rintro rfl
    rw [hg.cell 0, u64s_at _ _ (by omega)] at t
    injection t with t; injection t with t; cases t
  · rintro rfl
    rw [hf.cell 0, u64s_at _ _ (by omega)] at t
    injection t with t; injection t with t; cases t
  · rintro rfl
    rw [hp.cell 0] at t
    injection t with t; cases t

theorem and_val (v : Nat) (h0 : v ≠ 0) (hv : v < 18446744073709551616) : bits BinOp.and IntKind.u64 (v : Int) (IntKind.u64.wrap ((v : Int) - 1)) = ((v &&& (v - 1) : Nat) : Int) := by
  have e : IntKind.u64.wrap ((v : Int) - 1) = ((v - 1 : Nat) : Int) := by
    rw [IntKind.wrap_u64]
    omega
  rw [e, bits_and_u64_nat v _ hv (by omega)]

/-- take, where s is the least free slot. -/
theorem take_some {pb gb fb s : Nat} {G : List Nat} {fr : Nat → Bool} {w : World} (h : Pool w pb gb fb G fr) (hT : Tab w) (hs : fr s = true) (hl : ∀ y, y < s → fr y = false) :
    Calls Tryd.prog 56 #[.pointer (some ⟨pb, 0, none⟩)] w fun e w' => e = .returned (.tuple #[.agg #[.int .i64 (s : Int), .int .u64 (G.getD s 0 : Nat)], .bool true]) ∧ Pool w' pb gb fb G (fun x => fr x && x != s) ∧ Turn (· = fb) w w' := by
  have hn0 := h.ne0 hT
  obtain ⟨F, hp, hg, hf, hne, hG, hF, hlen, h1, h2, hb, hlt⟩ := h
  have hsG := hlt s hs
  obtain ⟨hi, hz, hv0, hc⟩ := least_at F s hF (by rw [hb]; exact hs) (fun y hy => by rw [hb]; exact hl y hy)
  have hpf : pb ≠ fb := hp.ne hf (by intro e; injection e with _ e; cases e)
  have hv := getD_lt hF (s / 64)
  have es : s / 64 * 64 + s % 64 = s := by omega
  have key := take_w pb gb fb (s / 64) (s % 64) F.length G.length (F.getD (s / 64) 0) (G.getD s 0) w (by omega) h2 hi (by omega) (by simpa using hv0) (hp.cell 0) (hp.cell 1)
    (fun j hj => by rw [hf.cell j, u64s_at F j (by omega), hz j hj]; rfl) ((hf.cell _).trans (u64s_at F _ hi)) (hf.thawed _) (by rw [es]; exact (hg.cell _).trans (u64s_at G _ hsG)) hne hpf hp.lt hg.lt hf.lt
    (fun w1 t => by rw [← hc]; exact tz_any _ w1 hv0 hv (hT.turn t (Ne.symm hn0.2.1) hT.pos))
  refine key.mono ?_
  rintro e w' ⟨rfl, rfl⟩
  rw [and_val _ hv0 hv]
  have t : Turn (· = fb) w ((w.setCell ⟨fb, s / 64, none⟩ (.int .u64 (F.getD (s / 64) 0 &&& (F.getD (s / 64) 0 - 1) : Nat))).alloc (.cells #[.int .i64 ((s / 64 : Nat) * 64 + (s % 64 : Nat)), .int .u64 (G.getD s 0 : Nat)] 77)) :=
    ((Turn.refl (· = fb) w).setCell (p := ⟨fb, s / 64, none⟩) (Or.inl rfl) _).alloc _
  refine ⟨by rw [es], ⟨F.set (s / 64) (F.getD (s / 64) 0 &&& (F.getD (s / 64) 0 - 1)), ?_, hg.turn t hne, ?_, hne, hG, set_all hF _ _ (and_lt _ _ hv), by simpa using hlen, h1, h2, ?_, ?_⟩, t⟩
  · have := hp.turn t hpf
    simpa using this
  · have := hf.set (s / 64) (.int .u64 (F.getD (s / 64) 0 &&& (F.getD (s / 64) 0 - 1) : Nat))
    rw [u64s_set] at this
    exact this.turn ((Turn.refl (fun _ => False) _).alloc _) (fun h => h)
  · intro x
    rw [bitAt_strike F _ x hi hv0 hv, hb x, hc, es]
  · intro x hx
    exact hlt x (Bool.and_eq_true_iff.1 hx).1

/-- take, where no slot is free. -/
theorem take_none {pb gb fb : Nat} {G : List Nat} {fr : Nat → Bool} {w : World} (h : Pool w pb gb fb G fr) (hl : ∀ y, fr y = false) :
    Calls Tryd.prog 56 #[.pointer (some ⟨pb, 0, none⟩)] w fun e w' => e = .returned (.tuple #[.agg #[.int .i64 0, .int .u64 0], .bool false]) ∧ Turn (fun _ => False) w w' := by
  obtain ⟨F, hp, hg, hf, hne, hG, hF, hlen, h1, h2, hb, hlt⟩ := h
  refine (take_none_w pb fb F.length w (by omega) (hp.cell 1) (fun j hj => by rw [hf.cell j, u64s_at F j hj, none_at F hF (fun y => by rw [hb]; exact hl y) j]; rfl) hp.lt hf.lt).mono ?_
  rintro e w' ⟨rfl, rfl⟩
  exact ⟨rfl, (Turn.refl _ w).alloc _⟩

/-- take of no pool. -/
theorem take_nil (w : World) :
    Calls Tryd.prog 56 #[.pointer none] w fun e w' => e = .returned (.tuple #[.agg #[.int .i64 0, .int .u64 0], .bool false]) ∧ Turn (fun _ => False) w w' := by
  go_enter Tryd.func56, Tryd.ntmps56
  go_wp2_with fail
  exact bodyPost_ret (v := .tuple #[.agg #[.int .i64 0, .int .u64 0], .bool false]) (by simp [results, Tryd.results56, go_sem]) rfl ⟨rfl, (Turn.refl _ w).alloc _⟩

theorem ones_core (v x1 x2 x3 x4 x5 x6 r : Nat) (w : World) (hv : v < 18446744073709551616) (h6 : x6 < 9223372036854775808)
    (k1 : IntKind.u64.wrap (bits BinOp.and IntKind.u64 ((v : Int) / 2) 6148914691236517205 + bits BinOp.and IntKind.u64 (v : Int) 6148914691236517205) = (x1 : Int))
    (k2 : IntKind.u64.wrap (bits BinOp.and IntKind.u64 ((x1 : Int) / 4) 3689348814741910323 + bits BinOp.and IntKind.u64 (x1 : Int) 3689348814741910323) = (x2 : Int))
    (k3 : bits BinOp.and IntKind.u64 (IntKind.u64.wrap ((x2 : Int) / 16 + (x2 : Int))) 1085102592571150095 = (x3 : Int))
    (k4 : IntKind.u64.wrap ((x3 : Int) + (x3 : Int) / 256) = (x4 : Int)) (k5 : IntKind.u64.wrap ((x4 : Int) + (x4 : Int) / 65536) = (x5 : Int)) (k6 : IntKind.u64.wrap ((x5 : Int) + (x5 : Int) / 4294967296) = (x6 : Int))
    (k7 : bits BinOp.and IntKind.i64 (IntKind.i64.wrap (x6 : Int)) 127 = (r : Int)) (k8 : bits BinOp.and IntKind.i64 (x6 : Int) 127 = (r : Int)) :
    Calls Tryd.prog 75 #[.int .u64 v] w fun e w' => e = .returned (.int .i64 (r : Int)) ∧ w = w' := by
  go_enter Tryd.func75, Tryd.ntmps75
  go_wp2_with (simp only [k1, k2, k3, k4, k5, k6, k7, k8])
  go_ret
  exact ⟨rfl, rfl⟩

theorem and_i64 (a : Nat) (ha : a < 9223372036854775808) : bits BinOp.and IntKind.i64 (a : Int) 127 = ((a % 128 : Nat) : Int) := by
  have h1 : (BitVec.ofInt 64 (a : Int)).toNat = a := by
    rw [BitVec.ofInt_natCast, BitVec.toNat_ofNat]; exact Nat.mod_eq_of_lt (by omega)
  have h2 : (BitVec.ofInt 64 (127 : Int)).toNat = 127 := by decide
  show IntKind.i64.wrap ((BitVec.ofInt 64 (a : Int) &&& BitVec.ofInt 64 (127 : Int)).toNat : Int) = _
  have h3 : a &&& 127 = a % 128 := by
    have := Nat.and_two_pow_sub_one_eq_mod a 7
    simpa using this
  rw [BitVec.toNat_and, h1, h2, h3]
  exact IntWalk.i64_in _ (by omega)

theorem ones_any (v : Nat) (w : World) (hv : v < 18446744073709551616) :
    Calls Tryd.prog 75 #[.int .u64 v] w fun e w' => e = .returned (.int .i64 (cnt v.testBit 64 : Nat)) ∧ w = w' := by
  obtain ⟨x1, x2, x3, h1, l1, h2, l2, h3, l3, l4, l5, h6⟩ := ones_math v hv
  rw [← h6]
  generalize h4 : x3 + x3 / 256 = x4 at l4 l5 ⊢
  generalize h5 : x4 + x4 / 65536 = x5 at l5 ⊢
  generalize h7 : x5 + x5 / 4294967296 = x6
  have l6 : x6 < 9223372036854775808 := by omega
  refine ones_core v x1 x2 x3 x4 x5 x6 (x6 % 128) w hv l6 ?_ ?_ ?_ ?_ ?_ ?_ ?_ (and_i64 _ l6)
  · rw [show ((v : Int) / 2) = ((v / 2 : Nat) : Int) by omega, show (6148914691236517205 : Int) = ((6148914691236517205 : Nat) : Int) by rfl, bits_and_u64_nat _ _ (by omega) (by omega), bits_and_u64_nat _ _ hv (by omega), IntKind.wrap_u64]
    generalize v / 2 &&& 6148914691236517205 = p at h1 ⊢
    generalize v &&& 6148914691236517205 = q at h1 ⊢
    omega
  · rw [show ((x1 : Int) / 4) = ((x1 / 4 : Nat) : Int) by omega, show (3689348814741910323 : Int) = ((3689348814741910323 : Nat) : Int) by rfl, bits_and_u64_nat _ _ (by omega) (by omega), bits_and_u64_nat _ _ l1 (by omega), IntKind.wrap_u64]
    generalize x1 / 4 &&& 3689348814741910323 = p at h2 ⊢
    generalize x1 &&& 3689348814741910323 = q at h2 ⊢
    omega
  · rw [show IntKind.u64.wrap ((x2 : Int) / 16 + (x2 : Int)) = ((x2 / 16 + x2 : Nat) : Int) by rw [IntKind.wrap_u64]; omega, show (1085102592571150095 : Int) = ((1085102592571150095 : Nat) : Int) by rfl, bits_and_u64_nat _ _ (by omega) (by omega), ← h3]
  · rw [IntKind.wrap_u64]; omega
  · rw [IntKind.wrap_u64]; omega
  · rw [IntKind.wrap_u64]; omega
  · rw [IntWalk.i64_in _ (by omega)]; exact and_i64 _ l6

theorem cnt_word (F : List Nat) (j : Nat) : cnt (bitAt F) (64 * (j + 1)) = cnt (bitAt F) (64 * j) + cnt (F.getD j 0).testBit 64 := by
  rw [show 64 * (j + 1) = 64 * j + 64 by omega, cnt_add]
  congr 1
  refine cnt_congr 64 (fun x hx => ?_)
  unfold bitAt
  rw [show (64 * j + x) / 64 = j by omega, show (64 * j + x) % 64 = x by omega]

def freeTo (F : List Nat) (j : Nat) : Nat := cnt (bitAt F) (64 * j)
theorem freeTo_le (F : List Nat) (j : Nat) : freeTo F j ≤ 64 * j := cnt_le _ _

theorem free_w (pb fb nf : Nat) (F : List Nat) (w : World) (hnf : nf ≤ 64) (h1 : w.cell? ⟨pb, 1, none⟩ = some (.slice (some ⟨fb, 0, none⟩) nf nf)) (hF : Hid (∀ j, F.getD j 0 < 18446744073709551616))
    (hc : Hid (∀ j, j < nf → w.cell? ⟨fb, j, none⟩ = some (.int .u64 (F.getD j 0 : Nat)))) :
    Calls Tryd.prog 54 #[.pointer (some ⟨pb, 0, none⟩)] w fun e w' => e = .returned (.int .i64 (freeTo F nf : Nat)) ∧ w = w' := by
  go_enter Tryd.func54, Tryd.ntmps54
  go_wp2_with fail
  go_loop [3, 13] (fun n k => ∃ j : Nat, j ≤ nf ∧ k = .int .i64 j ∧ n = .int .i64 (freeTo F j : Nat)) (fun _ k => nf - (intOf k).toNat)
  case atStart => exact ⟨0, Nat.zero_le _, rfl, rfl⟩
  case round =>
    obtain ⟨j, hj, rfl, rfl⟩ := hrel
    by_cases hlt : j < nf
    · have hcell := hc.out j hlt
      have hjn : (j : Int) < (nf : Int) := by omega
      have HO := Lib.hid (ones_any (F.getD j 0) w (hF.out j))
      have hl := freeTo_le F j
      have hl2 : cnt (F.getD j 0).testBit 64 ≤ 64 := cnt_le _ _
      have HW := Lib.hid (cnt_word F j)
      generalize hq : cnt (F.getD j 0).testBit 64 = q at HO hl2 HW
      clear hq
      generalize F.getD j 0 = u at hcell HO
      go_wp2_with fail
      refine HO.out.mono ?_
      rintro e w' ⟨rfl, rfl⟩
      go_wp2_with fail
      go_round
      case rel => exact ⟨j + 1, by omega, by go_num, by have := HW.out; unfold freeTo; rw [this]; go_num⟩
      case measure => simp [intOf]; omega
    · have hjn : ¬ (j : Int) < (nf : Int) := by omega
      obtain rfl : j = nf := by omega
      go_wp2_with fail
      go_ret
      exact ⟨rfl, rfl⟩

theorem cnt_beyond (p : Nat → Bool) (n m : Nat) (h : n ≤ m) (hp : ∀ x, p x = true → x < n) : cnt p m = cnt p n := by
  obtain ⟨k, rfl⟩ : ∃ k, m = n + k := ⟨m - n, by omega⟩
  rw [cnt_add, cnt_none (fun x => p (n + x)) k (fun x _ => by
    cases h : p (n + x) with
    | false => rfl
    | true => have := hp _ h; omega)]
  rfl

theorem free_any {pb gb fb : Nat} {G : List Nat} {fr : Nat → Bool} {w : World} (h : Pool w pb gb fb G fr) :
    Calls Tryd.prog 54 #[.pointer (some ⟨pb, 0, none⟩)] w fun e w' => e = .returned (.int .i64 (cnt fr G.length : Nat)) ∧ w = w' := by
  obtain ⟨F, hp, hg, hf, hne, hG, hF, hlen, h1, h2, hb, hlt⟩ := h
  have e : freeTo F F.length = cnt fr G.length := by
    unfold freeTo
    rw [cnt_congr _ (fun x _ => hb x), cnt_beyond fr G.length _ (by omega) hlt]
  rw [← e]
  exact free_w pb fb F.length F w (by omega) (hp.cell 1) (getD_lt hF) (fun j hj => (hf.cell j).trans (u64s_at F j hj))

theorem free_nil (w : World) : Calls Tryd.prog 54 #[.pointer none] w fun e w' => e = .returned (.int .i64 0) ∧ w = w' := by
  go_enter Tryd.func54, Tryd.ntmps54
  go_wp2_with fail
  go_ret
  exact ⟨rfl, rfl⟩

theorem quiet_same {f : FuncId} {args : Array Value} {w : World} {n : Nat} {v : Value} (h : Calls Tryd.prog f args (w.drewN n) fun e w' => e = .returned v ∧ w.drewN n = w') :
    Calls Tryd.prog f args (w.drewN n) fun e w'' => e = .returned v ∧ ∃ m, w'' = w.drewN m := h.mono fun _ _ ⟨he, hm⟩ => ⟨he, n, hm.symm⟩
theorem Pool.drewN {w : World} {pb gb fb : Nat} {G : List Nat} {fr : Nat → Bool} (h : Pool w pb gb fb G fr) (n : Nat) : Pool (w.drewN n) pb gb fb G fr :=
  h.turn ((Turn.refl (fun _ => False) w).drewN n) (fun h => h) (fun h => h) (fun h => h)
theorem free_quiet {pb gb fb : Nat} {G : List Nat} {fr : Nat → Bool} {w : World} (h : Pool w pb gb fb G fr) {q : Nat} (hq : cnt fr G.length = q) (n : Nat) :
    Calls Tryd.prog 54 #[.pointer (some ⟨pb, 0, none⟩)] (w.drewN n) fun e w' => e = .returned (.int .i64 (q : Int)) ∧ ∃ m, w' = w.drewN m := by
  subst hq
  exact quiet_same (free_any (h.drewN n))

theorem live_any {pb gb fb : Nat} {G : List Nat} {fr : Nat → Bool} {w : World} (h : Pool w pb gb fb G fr) :
    Calls Tryd.prog 24 #[.pointer (some ⟨pb, 0, none⟩)] w fun e w' => e = .returned (.int .i64 ((G.length : Int) - (cnt fr G.length : Nat))) ∧ ∃ n, w' = w.drewN n := by
  have FR := Lib.hid fun n => free_quiet h rfl n
  obtain ⟨F, hp, hg, hf, hne, hG, hF, hlen, h1, h2, hb, hlt⟩ := h
  have c0 := hp.cell 0
  have c := cnt_le fr G.length
  generalize cnt fr G.length = q at FR c ⊢
  simp at c0
  generalize G.length = ng at *
  clear hlen hb hlt hG hF hp hg hf
  go_enter Tryd.func24, Tryd.ntmps24
  go_wp2_with fail
  go_quiet ((go_at_call 54; with_reducible exact FR.out _))
  go_wp2_with fail
  go_ret
  exact ⟨rfl, _, rfl⟩

theorem live_nil (w : World) : Calls Tryd.prog 24 #[.pointer none] w fun e w' => e = .returned (.int .i64 0) ∧ w = w' := by
  go_enter Tryd.func24, Tryd.ntmps24
  go_wp2_with fail
  go_ret
  exact ⟨rfl, rfl⟩

theorem room_any {pb gb fb : Nat} {G : List Nat} {fr : Nat → Bool} {w : World} (h : Pool w pb gb fb G fr) (n : Int) :
    Calls Tryd.prog 48 #[.pointer (some ⟨pb, 0, none⟩), .int .i64 n] w fun e w' => e = .returned (.bool (decide (n ≤ (cnt fr G.length : Nat)))) ∧ w = w' := by
  have FR := Lib.hid (free_any h)
  clear h
  generalize cnt fr G.length = q at FR ⊢
  go_enter Tryd.func48, Tryd.ntmps48
  go_wp2_with fail
  refine FR.out.mono ?_
  rintro e w' ⟨rfl, rfl⟩
  go_wp2_with fail
  go_ret
  exact ⟨rfl, rfl⟩
theorem room_nil (w : World) (n : Int) : Calls Tryd.prog 48 #[.pointer none, .int .i64 n] w fun e w' => e = .returned (.bool false) ∧ w = w' := by
  go_enter Tryd.func48, Tryd.ntmps48
  go_wp2_with fail
  go_ret
  exact ⟨rfl, rfl⟩
theorem live_quiet {pb gb fb : Nat} {G : List Nat} {fr : Nat → Bool} {w : World} (h : Pool w pb gb fb G fr) {q : Int} (hq : (G.length : Int) - (cnt fr G.length : Nat) = q) (n : Nat) :
    Calls Tryd.prog 24 #[.pointer (some ⟨pb, 0, none⟩)] (w.drewN n) fun e w' => e = .returned (.int .i64 q) ∧ ∃ m, w' = w.drewN m := by
  subst hq
  exact Calls.quiet_of (live_any (h.drewN n))
theorem room_quiet {pb gb fb : Nat} {G : List Nat} {fr : Nat → Bool} {w : World} (h : Pool w pb gb fb G fr) (k : Int) {b : Bool} (hb : decide (k ≤ (cnt fr G.length : Nat)) = b) (n : Nat) :
    Calls Tryd.prog 48 #[.pointer (some ⟨pb, 0, none⟩), .int .i64 k] (w.drewN n) fun e w' => e = .returned (.bool b) ∧ ∃ m, w' = w.drewN m := by
  subst hb
  exact quiet_same (room_any (h.drewN n) k)
end Go.Proofs.YtfplnobnmgbgoaaDoor
