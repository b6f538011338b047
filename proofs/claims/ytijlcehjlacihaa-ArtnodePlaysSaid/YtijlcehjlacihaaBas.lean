/-
  The base: words for memory, rows, appends. Made by base.py out of the texts of stage 8.
-/
import Derived.Test.YtijlcehjlacihaaProg
import Derived.Test.YtijlcehjlacihaaMem
import Derived.WalkKit
import Derived.WalkSpells
import Derived.WalkLawsBesides
import Derived.Deep.QuietTactic
import Derived.Deep.RegionHeld3
import Derived.BigQuiet
import Derived.Deep.Cut
import Derived.Deep.CutBlock
import Derived.Lib.Hide
import Derived.Laws.ResultCell
import Derived.Laws.AppendOwn
import Derived.Laws.OwnMore
import Derived.Laws.AppendOwnNone
import Derived.Deep.RegionLaw
import Derived.Maps.AppendAt
import Derived.BigRegion
import Derived.Deep.MidRow
import Derived.Deep.Upon
import Derived.Deep.RegionHeld
import Derived.Laws.StructEq
namespace Go.Proofs.Ytijlcehjlacihaa
open Go.RowKit Go.Lib
set_option linter.unusedVariables false
set_option maxRecDepth 20000
set_option linter.unusedSimpArgs false
def No (_ : Nat) : Prop := False
theorem At.no {w w' : World} {g : Nat} {o : Obj} (h : At w g o) (t : Turn No w w') : At w' g o := h.turn t (fun h => h)
theorem At.new2 (w : World) (o o2 : Obj) : At ((w.alloc o).alloc o2) (w.heap.size + 1) o2 := by simpa using At.new (w.alloc o) o2
theorem Turn.set1 (w : World) (g i : Nat) (u : Value) : Turn (fun k => k = g) w (w.setCell ⟨g, i, none⟩ u) := Turn.setCell (X := fun k => k = g) (p := ⟨g, i, none⟩) (Turn.refl _ w) (Or.inl rfl) u
def Fit (a : ByteArray) : Prop := a.size ≤ 140737488355328
theorem bytes_beq (a b : ByteArray) : (a.toList == b.toList) = decide (a = b) := by
  rw [ByteArray.toList_eq, ByteArray.toList_eq]
  obtain ⟨⟨x⟩⟩ := a
  obtain ⟨⟨y⟩⟩ := b
  by_cases h : x = y
  · subst h; simp
  · simp [h]
theorem flat_length {α : Type} (f : α → List Value) (n : Nat) (h : ∀ x, (f x).length = n) : ∀ l : List α, (l.flatMap f).length = l.length * n
  | [] => by simp
  | x :: l => by rw [List.flatMap_cons, List.length_append, h, flat_length f n h l, List.length_cons, Nat.succ_mul]; omega
theorem flat_at {α : Type} (f : α → List Value) (n : Nat) (h : ∀ x, (f x).length = n) : ∀ (l : List α) (j i : Nat) (x : α), l[j]? = some x → i < n → (l.flatMap f)[j * n + i]? = (f x)[i]?
  | y :: l, 0, i, x, hx, hi => by
    simp at hx
    subst hx
    rw [List.flatMap_cons, Nat.zero_mul, Nat.zero_add, List.getElem?_append_left (by rw [h]; exact hi)]
  | y :: l, j + 1, i, x, hx, hi => by
    rw [List.flatMap_cons, List.getElem?_append_right (by rw [h, Nat.succ_mul]; omega), h, show (j + 1) * n + i - n = j * n + i by rw [Nat.succ_mul]; omega]
    exact flat_at f n h l j i x (by simpa using hx) hi
def Row (w : World) (A : Option Addr) (xs : List Value) : Prop :=
  ∀ j u, xs[j]? = some u → ∃ b o, A = some ⟨b, o, none⟩ ∧ b < w.heap.size ∧ w.cell? ⟨b, o + j, none⟩ = some u
theorem Row.turn {X : Nat → Prop} {w w' : World} {A : Option Addr} {xs : List Value} (h : Row w A xs) (t : Turn X w w') (hX : ∀ b o, A = some ⟨b, o, none⟩ → ¬ X b) : Row w' A xs := fun j u hj => by
  obtain ⟨b, o, hA, hb, hc⟩ := h j u hj
  exact ⟨b, o, hA, Nat.lt_of_lt_of_le hb t.size, (World.cell?_of_block (w := w) (t.block b hb (hX b o hA))).trans hc⟩
theorem Row.nil (w : World) (A : Option Addr) : Row w A [] := fun j u h => by simp at h
theorem row_of_own {w : World} {base : Nat} {e : TypeId} {size n cap : Nat} {A : Option Addr} {xs : List Value} (h : w.ownsRow base e size (.slice A n cap) n xs) : Row w A xs := fun j u hj => by
  obtain ⟨hl, ⟨hv, hn⟩ | ⟨g, c, cur, hv, hb, hg, hn, hc, hs, ht⟩⟩ := h
  · subst hn
    rw [Nat.zero_mul] at hl
    rw [List.eq_nil_of_length_eq_zero hl] at hj
    simp at hj
  · injection hv with hA _ _
    refine ⟨g, 0, hA, (Array.getElem?_eq_some_iff.1 hg).1, ?_⟩
    rw [cell_of_row w g _ cur e (0, 0) hg, Nat.zero_add]
    rw [← ht, List.getElem?_take] at hj
    split at hj
    · simpa using hj
    · cases hj
theorem own_grown {w w' : World} {base : Nat} {e : TypeId} {size n : Nat} {v : Value} {xs : List Value} {X : Nat → Prop} (h : w.ownsRow base e size v n xs) (t : Turn X w w') (hX : ∀ k, v.ownBlock = some k → ¬ X k) : w'.ownsRow base e size v n xs := by
  refine ⟨h.1, ?_⟩
  rcases h.2 with hn | ⟨g, cap, cur, rfl, hb, hgg, rest⟩
  · exact .inl hn
  · refine .inr ⟨g, cap, cur, rfl, hb, ?_, rest⟩
    rw [t.block g (Array.getElem?_eq_some_iff.1 hgg).1 (hX g rfl)]
    exact hgg
theorem turn_of_grown {w w' : World} (h : w.grownBy w' none) : Turn No w w' := (Turn.refl No w).grown h fun k hk => by cases hk
theorem info_parts {P : Program} {e : TypeId} {z : Value} {s b : Nat} (h : (P.info? e).map (fun i => (i.zero, i.size, i.bytes)) = some (some z, s, b)) : ∃ i, P.info? e = some i ∧ i.zero = some z ∧ i.size = s ∧ i.bytes = b := by
  cases hi : P.info? e with
  | none => rw [hi] at h; cases h
  | some i =>
    rw [hi] at h
    simp only [Option.map_some, Option.some.injEq, Prod.mk.injEq] at h
    exact ⟨i, rfl, h.1, h.2.1, h.2.2⟩
theorem own_form {w : World} {base : Nat} {e : TypeId} {size n : Nat} {v : Value} {xs : List Value} (h : w.ownsRow base e size v n xs) : ∃ A cap, v = .slice A n cap := by
  rcases h.2 with ⟨hv, hn⟩ | ⟨g, cap, cur, hv, _⟩
  · subst hn; exact ⟨none, 0, hv⟩
  · exact ⟨_, cap, hv⟩
structure AppRun (t ty : TypeId) (vs vx r : Value) (w w' : World) : Prop where
  out : (Builtin.append_ #[t, t] ty #[vs, vx]).run Try.prog w = .ok r w'
theorem step_append_run {w w' : World} {ops : Array Oper} {o : Oper} {a : Act} {K : Act → World → Prop} {Q : Exit → Act → World → Prop} {E : Prop} (hgd : o.guard = none) (s x : Operand) (t : TypeId)
    (ho : o.op = .call { callee := .builtin .append, args := #[s, x], argTypes := #[t, t] }) (vs vx r : Value) (hs : a.eval s = vs) (hx : a.eval x = vx) (hrun : AppRun t o.type vs vx r w w')
    (h : K (a.put o.dst r) w') : if Region.wanted o (yielded ops a.tmps) = true then Oper.wp Try.prog o a w K Q else E := by
  have hw : Region.wanted o (yielded ops a.tmps) = true := by simp [Region.wanted, hgd]
  rw [if_pos hw]
  unfold Oper.wp execOp
  simp only [ho, resolve, invoke, builtin, Sem.run_bind, Sem.run_pure, Result.andThen_ok, List.map_toArray, List.map_cons, List.map_nil, hs, hx, hrun.out]
  exact h
theorem wpList_append_run {w w' : World} {ops : Array Oper} {rest : List Oper} {o : Oper} {a : Act} {Q : Exit → Act → World → Prop} (hgd : o.guard = none) (s x : Operand) (t : TypeId)
    (ho : o.op = .call { callee := .builtin .append, args := #[s, x], argTypes := #[t, t] }) (vs vx r : Value) (hs : a.eval s = vs) (hx : a.eval x = vx) (hrun : AppRun t o.type vs vx r w w')
    (h : wpList Try.prog ops Q rest (a.put o.dst r) w') : wpList Try.prog ops Q (o :: rest) a w :=
  wpList_plain hgd fun K hK => by
    unfold Oper.wp execOp
    simp only [ho, resolve, invoke, builtin, Sem.run_bind, Sem.run_pure, Result.andThen_ok, List.map_toArray, List.map_cons, List.map_nil, hs, hx, hrun.out]
    exact hK _ _ h
theorem app_gen {t e size bytes : Nat} {z : Value} (ht : Try.prog.underlying t = some (.slice e)) (hinf : (Try.prog.info? e).map (fun i => (i.zero, i.size, i.bytes)) = some (some z, size, bytes)) (hzs : z.cells.size = size) (hsz : 0 < size) (hby : bytes ≤ 1000)
    {w : World} {Z : Nat} {v : Value} {n : Nat} {xs : List Value} (h : w.ownsRow Z e size v n xs) (a : Addr) (m c : Nat) (news : List Value) (hl : news.length = m * size) (hnews : ∀ j u, news[j]? = some u → w.cell? (a.add j) = some u)
    (h1 : ∀ u ∈ news, u.oneCell' = true) (hnm : n + m ≤ 1000000) (hz : Z ≤ w.heap.size) (ty : TypeId) :
    ∃ B cap w', AppRun t ty v (.slice (some a) m c) (.slice B (n + m) cap) w w' ∧ w'.ownsRow Z e size (.slice B (n + m) cap) (n + m) (xs ++ news) ∧ Turn (fun i => v.ownBlock = some i) w w' ∧
      ((Value.slice B (n + m) cap).ownBlock = v.ownBlock ∨ (Value.slice B (n + m) cap).ownBlock = some w.heap.size) := by
  obtain ⟨i0, hi, hz0, hz1, hz2⟩ := info_parts hinf
  obtain ⟨v', w', hr, h2, h3, _, h5⟩ := run_append_own_at (P := Try.prog) w Z t ty e i0 z size bytes ht hi hz0 hz1 hz2 hzs hsz v n xs h a m c news hl hnews h1 (by unfold maxLen; omega)
    (Nat.le_trans (Nat.mul_le_mul hnm hby) (by decide)) hz
  obtain ⟨B, cap, rfl⟩ := own_form h2
  exact ⟨B, cap, w', ⟨hr⟩, h2, (Turn.refl _ w).grown h3 (fun k hk => Or.inl hk), h5⟩
def ablk (A : Option Addr) : Option Nat := A.map (·.block)
theorem own_ablk (A : Option Addr) (n c : Nat) : (Value.slice A n c).ownBlock = ablk A := by cases A <;> rfl
theorem own_at {w : World} {Z : Nat} {t : TypeId} {s n : Nat} {A : Option Addr} {c : Nat} {xs : List Value} {i : Nat} (h : w.ownsRow Z t s (.slice A n c) n xs) (hi : ablk A = some i) : Z ≤ i ∧ ∃ cur, At w i (.cells cur t (0, 0)) := by
  rcases h.2 with ⟨hv, _⟩ | ⟨rb, cp, cur, hv, hb, hg, _⟩
  · injection hv with hA; subst hA; cases hi
  · injection hv with hA
    subst hA
    injection hi with hi
    subst hi
    exact ⟨hb, cur, hg⟩
theorem all_one {vs : List Value} (h : ∀ u ∈ vs, u.oneCell' = true) : vs.toArray.all (·.oneCell') = true := by simpa using h
theorem eqf_cons {P : Program} {d : Nat} {xs ys : Array Value} {f : Field} {fs : List Field} {w : World} {a b : Value} {r : Bool} (hne : f.name ≠ "_") (ha : (part f.type xs f.offset).run P w = .ok a w) (hb : (part f.type ys f.offset).run P w = .ok b w)
    (h : (Op.equalIn d f.type a b).run P w = .ok r w) : (Op.eqFields d xs ys (f :: fs)).run P w = if r then (Op.eqFields d xs ys fs).run P w else .ok false w := by
  rw [Op.eqFields, if_pos hne]
  simp only [Sem.run_bind, ha, hb, h, Result.andThen_ok]
  cases r <;> simp
theorem eqf_nil {P : Program} {d : Nat} {xs ys : Array Value} {w : World} : (Op.eqFields d xs ys []).run P w = .ok true w := rfl
theorem Row.no {w w' : World} {A : Option Addr} {xs : List Value} (h : Row w A xs) (t : Turn No w w') : Row w' A xs := h.turn t fun _ _ _ h => h
theorem own_typed {w : World} {Z Z2 n n2 : Nat} {t t2 : TypeId} {s s2 : Nat} {v : Value} {B : Option Addr} {c k : Nat} {xs ys : List Value} (h : w.ownsRow Z t s (.slice B n c) n xs) (h2 : w.ownsRow Z2 t2 s2 v n2 ys) (ht : t ≠ t2) (hk : v.ownBlock = some k) : ¬ (Value.slice B n c).ownBlock = some k := fun e => by
  rw [own_ablk] at e
  obtain ⟨_, cur, hc⟩ := own_at h e
  rcases h2.2 with ⟨hv0, _⟩ | ⟨g', c', cur', hv0, _, hg', _⟩
  · rw [hv0] at hk; cases hk
  · rw [hv0] at hk
    injection hk with hk
    subst hk
    have := hc.eq hg'
    injection this with _ e2 _
    exact ht e2
theorem turn4 (w : World) (g a b c d : Nat) (p q r s : Value) : Turn (fun k => k = g) w ((((w.setCell ⟨g, a, none⟩ p).setCell ⟨g, b, none⟩ q).setCell ⟨g, c, none⟩ r).setCell ⟨g, d, none⟩ s) :=
  (((Turn.set1 w g a p).trans (Turn.set1 _ g b q)).trans (Turn.set1 _ g c r)).trans (Turn.set1 _ g d s)
theorem at_put4 {w : World} {g : Nat} {x0 x1 x2 x3 : Value} (h : At w g (.cells #[x0, x1, x2, x3] 38 (0, 0))) (y0 y1 y2 y3 : Value) : At ((((w.setCell ⟨g, 0, none⟩ y0).setCell ⟨g, 1, none⟩ y1).setCell ⟨g, 2, none⟩ y2).setCell ⟨g, 3, none⟩ y3) g (.cells #[y0, y1, y2, y3] 38 (0, 0)) := by
  simpa using (((h.set 0 y0).set 1 y1).set 2 y2).set 3 y3
theorem own_from {w : World} {Z Z' : Nat} {t : TypeId} {s n : Nat} {v : Value} {xs : List Value} (h : w.ownsRow Z t s v n xs) (hz : Z' ≤ Z) : w.ownsRow Z' t s v n xs := by
  refine ⟨h.1, ?_⟩
  rcases h.2 with hn | ⟨g, cap, cur, rfl, hb, r⟩
  · exact .inl hn
  · exact .inr ⟨g, cap, cur, rfl, Nat.le_trans hz hb, r⟩
theorem own_neG {w : World} {Z n : Nat} {v : Value} {xs : List Value} {t0 : TypeId} {s : Nat} (h : w.ownsRow Z t0 s v n xs) {g : Nat} {c : Array Value} {t : TypeId} {f : Nat × Nat} (hg : At w g (.cells c t f)) (ht : t ≠ t0) : v.ownBlock ≠ some g := by
  intro e
  rcases h.2 with ⟨hv, _⟩ | ⟨g', c', cur, hv, _, hg', _⟩
  · rw [hv] at e; cases e
  · rw [hv] at e
    injection e with e
    subst e
    have := hg.eq hg'
    injection this with _ e2 _
    exact ht e2
theorem own_capN {w : World} {Z : Nat} {e size : Nat} {B : Option Addr} {n c : Nat} {xs : List Value} (h : w.ownsRow Z e size (.slice B n c) n xs) : n ≤ c := by
  rcases h.2 with ⟨_, h⟩ | ⟨g, cap, cur, hv, _, _, hc, _⟩
  · omega
  · injection hv with _ _ h3
    omega
theorem own_set {w : World} {Z g n c s : Nat} {t : TypeId} {xs : List Value} (h : w.ownsRow Z t s (.slice (some ⟨g, 0, none⟩) n c) n xs) (o : Nat) (v : Value) : (w.setCell ⟨g, o, none⟩ v).ownsRow Z t s (.slice (some ⟨g, 0, none⟩) n c) n (xs.set o v) := by
  obtain ⟨hl, ⟨hv, hn⟩ | ⟨g', cp, cur, hv, hb, hg, hn, hc, hs, ht⟩⟩ := h
  · cases hv
  · injection hv with hA _ hcp
    injection hA with hA
    injection hA with hA
    subst hA hcp
    have hat : At w g (.cells cur t (0, 0)) := hg
    exact ⟨by rw [List.length_set]; exact hl, .inr ⟨g, c, cur.setIfInBounds o v, rfl, hb, hat.set o v, hn, hc, by simpa using hs, by rw [← ht]; simp [List.take_set]⟩⟩
def spl : List Value → Nat → List Value → List Value
  | xs, _, [] => xs
  | xs, o, v :: r => spl (xs.set o v) (o + 1) r
theorem own_sets {Z g n c s : Nat} {t : TypeId} : ∀ (vs : List Value) (o : Nat) (w : World) (xs : List Value), w.ownsRow Z t s (.slice (some ⟨g, 0, none⟩) n c) n xs → (w.setCells g o vs).ownsRow Z t s (.slice (some ⟨g, 0, none⟩) n c) n (spl xs o vs)
  | [], _, _, _, h => h
  | v :: r, o, w, xs, h => own_sets r (o + 1) _ _ (own_set h o v)
theorem spl_mid : ∀ (vs P Q R : List Value), Q.length = vs.length → spl (P ++ Q ++ R) P.length vs = P ++ vs ++ R
  | [], P, Q, R, h => by
    have : Q = [] := List.eq_nil_of_length_eq_zero h
    subst this
    rfl
  | v :: r, P, [], R, h => by cases h
  | v :: r, P, q :: Q, R, h => by
    have e : (P ++ q :: Q ++ R).set P.length v = (P ++ [v]) ++ Q ++ R := by simp
    have ih := spl_mid r (P ++ [v]) Q R (by simpa using h)
    show spl ((P ++ q :: Q ++ R).set P.length v) (P.length + 1) r = _
    rw [e]
    rw [List.length_append] at ih
    rw [show P.length + 1 = P.length + [v].length from rfl, ih]
    simp
theorem turn_sets (g : Nat) : ∀ (vs : List Value) (o : Nat) (w : World), Turn (fun k => k = g) w (w.setCells g o vs)
  | [], _, w => Turn.refl _ w
  | v :: r, o, w => (Turn.set1 w g o v).trans (turn_sets g r (o + 1) _)
theorem there_own {w : World} {Z g n c s : Nat} {t : TypeId} {xs : List Value} (h : w.ownsRow Z t s (.slice (some ⟨g, 0, none⟩) n c) n xs) (o m : Nat) (hm : o + m ≤ xs.length) : w.there g o m := fun j hj => by
  obtain ⟨v, hv⟩ : ∃ v, xs[o + j]? = some v := ⟨_, List.getElem?_eq_getElem (by omega)⟩
  obtain ⟨b, o2, hA, _, hc⟩ := row_of_own h (o + j) v hv
  injection hA with hA
  injection hA with e1 e2
  subst e1 e2
  rw [Nat.zero_add] at hc
  refine ⟨by rw [hc]; rfl, ?_⟩
  obtain ⟨_, cur, hat⟩ := own_at (i := g) h rfl
  exact hat.thawed _
theorem no_of {w0 W W' : World} {X : Nat → Prop} (h : Turn No w0 W) (t : Turn X W W') (hX : ∀ i, X i → w0.heap.size ≤ i) : Turn No w0 W' := h.then t fun i hi hx => by have := hX i hx; omega
def kcs (K : List ByteArray) : List Value := K.map .string
theorem kcs_length (K : List ByteArray) : (kcs K).length = K.length := by simp [kcs]
theorem kcs_at {K : List ByteArray} {j : Nat} {k : ByteArray} (h : K[j]? = some k) : (kcs K)[j]? = some (.string k) := by simp [kcs, h]
theorem kcs_append (K L : List ByteArray) : kcs (K ++ L) = kcs K ++ kcs L := by simp [kcs]
theorem kcs_get {w : World} {B : Option Addr} {K : List ByteArray} (h : Row w B (kcs K)) {j : Nat} {k : ByteArray} (hj : K[j]? = some k) : ∃ b o, B = some ⟨b, o, none⟩ ∧ w.cell? ⟨b, o + j, none⟩ = some (.string k) := by
  obtain ⟨b, o, hA, _, hc⟩ := h j _ (kcs_at hj)
  exact ⟨b, o, hA, hc⟩
theorem infw9 : (Try.prog.info? 9).map (fun i => (i.zero, i.size, i.bytes)) = some (some (.string ⟨#[]⟩), 1, 16) := by kernel_rfl
structure Ks (w0 w : World) (K : List ByteArray) (B : Option Addr) (c : Nat) : Prop where
  tu : Turn No w0 w
  row : w.ownsRow w0.heap.size 9 1 (.slice B K.length c) K.length (kcs K)
theorem Ks.no {w0 w w' : World} {K : List ByteArray} {B : Option Addr} {c : Nat} (h : Ks w0 w K B c) (t : Turn No w w') : Ks w0 w' K B c := ⟨h.tu.trans t, own_grown h.row t fun _ _ h => h⟩
theorem Ks.append {w0 w : World} {K : List ByteArray} {B : Option Addr} {c : Nat} (h : Ks w0 w K B c) (hl : K.length < 1000000) (k : ByteArray) :
    ∃ B' c' w', AppRun 74 74 (.slice B K.length c) (.slice (some ⟨w.heap.size, 0, none⟩) 1 1) (.slice B' (K.length + 1) c') (w.alloc (.cells #[.string k] 9)) w' ∧ Ks w0 w' (K ++ [k]) B' c' := by
  have h2 := h.no ((Turn.refl No w).alloc (.cells #[.string k] 9))
  have hn := At.new w (.cells #[.string k] 9)
  obtain ⟨B', c', w', q, ho, ht, hB⟩ := app_gen Try.underlying74 infw9 rfl (by decide) (by decide) h2.row ⟨w.heap.size, 0, none⟩ 1 1 [.string k] rfl
    (fun j u hj => by rw [Addr.add_lit, Nat.zero_add, hn.cell]; simpa using hj) (by intro u hu; simp at hu; subst hu; rfl) (by omega) h2.tu.size 74
  refine ⟨B', c', w', q, h2.tu.then ht fun k hk hb => ?_, ?_⟩
  · rw [own_ablk] at hb
    have := (own_at h2.row hb).1
    omega
  · have e : kcs (K ++ [k]) = kcs K ++ [.string k] := by simp [kcs]
    rw [List.length_append, e]
    exact ho
end Go.Proofs.Ytijlcehjlacihaa
