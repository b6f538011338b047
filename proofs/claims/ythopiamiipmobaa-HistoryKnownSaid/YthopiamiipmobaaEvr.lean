/-
  Rows of events: as they are read; rows of the program's own, made one event behind the other.
-/
import Derived.Test.YthopiamiipmobaaWPut
import Derived.Laws.OwnMore
namespace Go.Proofs.Ythopiamiipmobaa
open Go.RowKit Go.Lib
set_option linter.unusedVariables false
set_option linter.unusedSimpArgs false

/-- The event at place k of a row that is read. -/
theorem Row.ev {w : World} {A : Option Addr} {l : List Ev} (h : Row w A (ecs l)) {k : Nat} {e : Ev} (he : l[k]? = some e) :
    ∃ b o, A = some ⟨b, o, none⟩ ∧ b < w.heap.size ∧ ∀ i u, e.cs[i]? = some u → w.cell? ⟨b, o + k * 13 + i, none⟩ = some u := by
  have h0 := h (k * 13 + 0) (.int .u8 e.kind) (by rw [ecs_at he 0 (by omega)]; rfl)
  obtain ⟨b, o, hA, hb, _⟩ := h0
  refine ⟨b, o, hA, hb, fun i u hi => ?_⟩
  have hlt : i < 13 := (List.getElem?_eq_some_iff.1 hi).1
  obtain ⟨b', o', hA', _, hc⟩ := h (k * 13 + i) u (by rw [ecs_at he i hlt]; exact hi)
  rw [hA] at hA'
  injection hA' with hA'
  injection hA' with e1 e2
  subst e1 e2
  rwa [Nat.add_assoc]
theorem Row.wr {w : World} {A : Option Addr} {l : List Wr} (h : Row w A (wcs l)) {k : Nat} {e : Wr} (he : l[k]? = some e) :
    ∃ b o, A = some ⟨b, o, none⟩ ∧ b < w.heap.size ∧ ∀ i u, e.cs[i]? = some u → w.cell? ⟨b, o + k * 3 + i, none⟩ = some u := by
  have h0 := h (k * 3 + 0) (.string e.k) (by rw [wcs_at he 0 (by omega)]; rfl)
  obtain ⟨b, o, hA, hb, _⟩ := h0
  refine ⟨b, o, hA, hb, fun i u hi => ?_⟩
  have hlt : i < 3 := (List.getElem?_eq_some_iff.1 hi).1
  obtain ⟨b', o', hA', _, hc⟩ := h (k * 3 + i) u (by rw [wcs_at he i hlt]; exact hi)
  rw [hA] at hA'
  injection hA' with hA'
  injection hA' with e1 e2
  subst e1 e2
  rwa [Nat.add_assoc]

/-- A row of events of the program's own. -/
structure Evs (w : World) (Z : Nat) (l : List Ev) (ps : List (List Wr)) (A : Option Addr) (c : Nat) : Prop where
  row : w.ownsRow Z 34 13 (.slice A l.length c) l.length (ecs l)
  wss : Wss w Z l ps
theorem Evs.turn {X : Nat → Prop} {w w' : World} {Z : Nat} {l : List Ev} {ps : List (List Wr)} {A : Option Addr} {c : Nat} (h : Evs w Z l ps A c) (t : Turn X w w') (h1 : ∀ i, ablk A = some i → ¬ X i) (h2 : ∀ i, Wb l i → ¬ X i) : Evs w' Z l ps A c :=
  ⟨own_grown h.row t fun k hk => h1 k ((own_ablk ..).symm.trans hk), h.wss.turn t h2⟩
theorem Evs.no {w w' : World} {Z : Nat} {l : List Ev} {ps : List (List Wr)} {A : Option Addr} {c : Nat} (h : Evs w Z l ps A c) (t : Turn No w w') : Evs w' Z l ps A c := h.turn t (fun _ _ h => h) (fun _ _ h => h)
/-- What lies below a bound is left alone. -/
theorem Evs.apart {X : Nat → Prop} {w w' : World} {Z : Nat} {l : List Ev} {ps : List (List Wr)} {A : Option Addr} {c : Nat} (h : Evs w Z l ps A c) (t : Turn X w w') (hX : ∀ i, X i → i < Z ∨ w.heap.size ≤ i) : Evs w' Z l ps A c := by
  refine h.turn t (fun i hi hx => ?_) (fun i hi hx => ?_)
  · obtain ⟨h1, cur, h2⟩ := own_at h.row hi
    have := h2.lt
    have := hX i hx
    omega
  · obtain ⟨h1, cur, h2⟩ := h.wss.at_ hi
    have := h2.lt
    have := hX i hx
    omega
theorem Evs.read {w : World} {Z : Nat} {l : List Ev} {ps : List (List Wr)} {A : Option Addr} {c : Nat} (h : Evs w Z l ps A c) : Row w A (ecs l) := row_of_own h.row
theorem Ht.evs {w : World} {Z hb : Nat} {l : List Ev} {ps : List (List Wr)} {A : Option Addr} {cap : Nat} {m : Option Nat} (h : Ht w Z hb l ps A cap m) : Evs w Z l ps A cap := ⟨h.row, h.wss⟩

theorem cputs_size : ∀ (vs : List Value) (c : Array Value) (i : Nat), (cputs c i vs).size = c.size
  | [], _, _ => rfl
  | v :: vs, c, i => by rw [cputs, cputs_size vs]; simp
theorem cputs_get : ∀ (vs : List Value) (c : Array Value) (i j : Nat), i + vs.length ≤ c.size → (cputs c i vs)[j]? = if i ≤ j ∧ j < i + vs.length then vs[j - i]? else c[j]?
  | [], c, i, j, _ => by
    rw [if_neg (by simp)]
    rfl
  | v :: vs, c, i, j, h => by
    rw [List.length_cons] at h
    rw [cputs, cputs_get vs _ (i + 1) j (by simp; omega)]
    rw [List.length_cons]
    by_cases h1 : i + 1 ≤ j ∧ j < i + 1 + vs.length
    · rw [if_pos h1, if_pos (by omega)]
      obtain ⟨q, hq⟩ : ∃ q, j - i = q + 1 := ⟨j - i - 1, by omega⟩
      rw [hq, show j - (i + 1) = q by omega]
      simp
    · rw [if_neg h1]
      by_cases h2 : j = i
      · subst h2
        rw [if_pos (by omega), Array.getElem?_setIfInBounds, if_pos rfl, if_pos (by omega)]
        simp
      · rw [if_neg (by omega), Array.getElem?_setIfInBounds, if_neg (by omega)]

/-- A row of n events of which k are written. -/
structure Lv (w wr : World) (ps : List (List Wr)) (L : List Ev) (lb k : Nat) (l' : List Ev) : Prop where
  tu : Turn No w wr
  old : w.heap.size ≤ lb
  cur : ∃ cur, At wr lb (.cells cur 34 (0, 0)) ∧ cur.size = L.length * 13 ∧ ∀ (j : Nat) (u : Value), (ecs l')[j]? = some u → cur[j]? = some u
  len : l'.length = k
  pl : pl l' = L.take k
  wss : Wss wr w.heap.size l' (ps.take k)
section
variable {w wr w2 : World} {ps : List (List Wr)} {L : List Ev} {lb k : Nat} {l' : List Ev}
theorem Lv.no (h : Lv w wr ps L lb k l') (t : Turn No wr w2) : Lv w w2 ps L lb k l' := by
  obtain ⟨cur, h1, h2⟩ := h.cur
  exact ⟨h.tu.trans t, h.old, ⟨cur, h1.no t, h2⟩, h.len, h.pl, h.wss.turn t fun _ _ h => h⟩
theorem Lv.step (h : Lv w wr ps L lb k l') {e : Ev} {ws : List Wr} (he : L[k]? = some e.pure) (hw : ps[k]? = some ws) {B : Option Addr} {c : Nat} (ho : wr.ownsRow w.heap.size 53 3 (.slice B e.op.len c) e.op.len (wcs ws)) (hf : e.fit ws) :
    Lv w (puts wr lb (k * 13) (e.on B c).cs) ps L lb (k + 1) (l' ++ [e.on B c]) := by
  obtain ⟨cur, h1, h2, h3⟩ := h.cur
  have hk : k < L.length := (List.getElem?_eq_some_iff.1 he).1
  have hk2 : k < ps.length := (List.getElem?_eq_some_iff.1 hw).1
  have hcl : (e.on B c).cs.length = 13 := rfl
  have tp := turn_puts lb (e.on B c).cs (k * 13) wr
  have hs : k * 13 + (e.on B c).cs.length ≤ cur.size := by rw [hcl, h2]; omega
  refine ⟨h.tu.then tp fun i hi e => by have := h.old; omega, h.old, ⟨_, At.puts (e.on B c).cs (k * 13) h1, by rw [cputs_size, h2], fun j u hj => ?_⟩, by simp [h.len], ?_, ?_⟩
  · rw [cputs_get _ _ _ _ hs]
    have hel := ecs_length l'
    rw [h.len] at hel
    have e1 : ecs (l' ++ [e.on B c]) = ecs l' ++ (e.on B c).cs := by rw [ecs_append]; simp [ecs]
    rw [e1] at hj
    by_cases hq : j < k * 13
    · rw [if_neg (by omega)]
      rw [List.getElem?_append_left (by omega)] at hj
      exact h3 j u hj
    · rw [List.getElem?_append_right (by omega), hel] at hj
      have : j - k * 13 < 13 := by rw [← hcl]; exact (List.getElem?_eq_some_iff.1 hj).1
      rw [if_pos (by omega)]
      exact hj
  · rw [pl_snoc, h.pl, Ev.pure_on, List.take_add_one, he]
    rfl
  · rw [List.take_add_one, hw]
    have h4 := h.wss.snoc (e := e.on B c) ho (hf.on B c)
    refine Wss.turn h4 tp fun i hi e => ?_
    subst e
    obtain ⟨_, cur', h5⟩ := h4.at_ hi
    exact h1.ne h5 (cells_ne (by decide)) rfl
theorem Lv.done (h : Lv w wr ps L lb L.length l') (hp : ps.length = L.length) (hn : L.length ≤ 65536) : Evs wr w.heap.size l' ps (some ⟨lb, 0, none⟩) L.length ∧ Go.Proofs.Ythopiamiipmobaa.pl l' = L := by
  obtain ⟨cur, h1, h2, h3⟩ := h.cur
  refine ⟨⟨⟨ecs_length l', .inr ⟨lb, L.length, cur, ?_, h.old, h1, ?_, ?_, h2, ?_⟩⟩, ?_⟩, ?_⟩
  · rw [h.len]
  · rw [h.len]; exact Nat.le_refl _
  · unfold maxLen; omega
  · have hel := ecs_length l'
    apply List.ext_getElem?
    intro j
    rw [List.getElem?_take]
    by_cases hj : j < l'.length * 13
    · rw [if_pos hj]
      have : (ecs l')[j]? = some (ecs l')[j] := List.getElem?_eq_getElem (by omega)
      rw [this]
      simpa using h3 j _ this
    · rw [if_neg hj, List.getElem?_eq_none (by omega)]
  · have := h.wss
    rwa [← hp, List.take_length] at this
  · rw [h.pl, List.take_length]
end
end Go.Proofs.Ythopiamiipmobaa
