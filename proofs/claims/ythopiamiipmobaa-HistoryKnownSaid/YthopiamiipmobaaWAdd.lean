/-
  note; a history in memory.
-/
import Derived.Test.YthopiamiipmobaaWFits
import Derived.Test.YthopiamiipmobaaWEv
import Derived.Deep.DeepCutAuto
import Derived.Laws.Tables
namespace Go.Proofs.Ythopiamiipmobaa
open Go.RowKit Go.Lib
set_option linter.unusedVariables false

set_option maxHeartbeats 1000000 in
theorem note_any (l : List Ev) (b : Nat) (e : Ev) (hf : fits l e = true) (hid : In64 e.id) (hl : l.length < 1000000) (w : World) (hm : Mp w (some b) l) :
    Calls Try.prog 34 #[.map (some b), e.val] w fun r w' => r = .returned (.tuple #[]) ∧ Mp w' (some b) (l ++ [e]) ∧ Turn (· = b) w w' := by
  have hm2 := hm.no (((Turn.refl No w).alloc (.cells e.cs.toArray 34)))
  obtain ⟨w2, q, hM, ht⟩ := hm2.note e hf hid hl
  have hT : Hid (Mp w2 (some b) (l ++ [e]) ∧ Turn (· = b) w w2) := Lib.hid ⟨hM, ((Turn.refl (· = b) w).alloc _).trans ht⟩
  clear hM ht hm2 hm hf
  obtain ⟨kind, id, ⟨ok, k, v, o, had, aft, A, len, cap⟩, ⟨code, found, ak, av⟩⟩ := e
  simp only [Ev.cs, Opx.cs, Ans.cs, Kn.val, List.cons_append, List.nil_append] at q
  go_enter Try.func34, Try.ntmps34
  go_wp2_with fail
  go_end0
  exact ⟨rfl, hT.out⟩

def Ev.on (e : Ev) (A : Option Addr) (cap : Nat) : Ev := ⟨e.kind, e.id, ⟨e.op.kind, e.op.k, e.op.v, e.op.o, e.op.had, e.op.aft, A, e.op.len, cap⟩, e.an⟩
/-- An event within reach; ws are its writes. -/
structure Ev.fit (e : Ev) (ws : List Wr) : Prop where
  id : In64 e.id
  k : Fit e.op.k
  v : Fit e.op.v
  o : Fit e.op.o
  ak : Fit e.an.k
  av : Fit e.an.v
  wf : ∀ x ∈ ws, x.fit
  n : ws.length = e.op.len
  few : e.op.len ≤ 100000
theorem Ev.fit.on {e : Ev} {ws : List Wr} (h : e.fit ws) (A : Option Addr) (cap : Nat) : (e.on A cap).fit ws := ⟨h.id, h.k, h.v, h.o, h.ak, h.av, h.wf, h.n, h.few⟩

def ablk (A : Option Addr) : Option Nat := A.map (·.block)
theorem own_ablk (A : Option Addr) (n c : Nat) : (Value.slice A n c).ownBlock = ablk A := by cases A <;> rfl

/-- The writes of the events of a row lie in rows of their own, from block Z on. -/
structure Wss (w : World) (Z : Nat) (l : List Ev) (ps : List (List Wr)) : Prop where
  len : ps.length = l.length
  own : ∀ (j : Nat) (e : Ev) (ws : List Wr), l[j]? = some e → ps[j]? = some ws → w.ownsRow Z 53 3 (.slice e.op.A e.op.len e.op.cap) e.op.len (wcs ws) ∧ e.fit ws
theorem Wss.nil (w : World) (Z : Nat) : Wss w Z [] [] := ⟨rfl, fun j e ws h => by simp at h⟩
def Wb (l : List Ev) (i : Nat) : Prop := ∃ e ∈ l, ablk e.op.A = some i
theorem Wss.turn {X : Nat → Prop} {w w' : World} {Z : Nat} {l : List Ev} {ps : List (List Wr)} (h : Wss w Z l ps) (t : Turn X w w') (hX : ∀ i, Wb l i → ¬ X i) : Wss w' Z l ps :=
  ⟨h.len, fun j e ws he hw => ⟨own_grown (h.own j e ws he hw).1 t fun k hk => hX k ⟨e, List.mem_of_getElem? he, (own_ablk ..).symm.trans hk⟩, (h.own j e ws he hw).2⟩⟩
theorem Wss.get {w : World} {Z : Nat} {l : List Ev} {ps : List (List Wr)} (h : Wss w Z l ps) {j : Nat} {e : Ev} (he : l[j]? = some e) : ∃ ws, ps[j]? = some ws ∧ w.ownsRow Z 53 3 (.slice e.op.A e.op.len e.op.cap) e.op.len (wcs ws) ∧ e.fit ws := by
  have hj : j < ps.length := by rw [h.len]; exact (List.getElem?_eq_some_iff.1 he).1
  exact ⟨ps[j], List.getElem?_eq_getElem hj, h.own j e _ he (List.getElem?_eq_getElem hj)⟩
theorem own_at {w : World} {Z : Nat} {t : TypeId} {s n : Nat} {A : Option Addr} {c : Nat} {xs : List Value} {i : Nat} (h : w.ownsRow Z t s (.slice A n c) n xs) (hi : ablk A = some i) : Z ≤ i ∧ ∃ cur, At w i (.cells cur t (0, 0)) := by
  rcases h.2 with ⟨hv, _⟩ | ⟨rb, cp, cur, hv, hb, hg, _⟩
  · injection hv with hA; subst hA; cases hi
  · injection hv with hA
    subst hA
    injection hi with hi
    subst hi
    exact ⟨hb, cur, hg⟩
theorem Wss.at_ {w : World} {Z : Nat} {l : List Ev} {ps : List (List Wr)} (h : Wss w Z l ps) {i : Nat} (hi : Wb l i) : Z ≤ i ∧ ∃ cur, At w i (.cells cur 53 (0, 0)) := by
  obtain ⟨e, he, hA⟩ := hi
  obtain ⟨j, hj⟩ := List.mem_iff_getElem?.1 he
  obtain ⟨ws, _, ho, _⟩ := h.get hj
  exact own_at ho hA
theorem Wss.snoc {w' : World} {Z : Nat} {l : List Ev} {ps : List (List Wr)} (h : Wss w' Z l ps) {e : Ev} {ws : List Wr} (ho : w'.ownsRow Z 53 3 (.slice e.op.A e.op.len e.op.cap) e.op.len (wcs ws)) (hf : e.fit ws) : Wss w' Z (l ++ [e]) (ps ++ [ws]) := by
  refine ⟨by simp [h.len], fun j e' ws' he hw => ?_⟩
  by_cases hj : j < l.length
  · rw [List.getElem?_append_left hj] at he
    rw [List.getElem?_append_left (by rw [h.len]; exact hj)] at hw
    exact h.own j e' ws' he hw
  · rw [List.getElem?_append_right (by omega)] at he
    rw [List.getElem?_append_right (by rw [h.len]; omega), h.len] at hw
    obtain ⟨q, rfl⟩ : j - l.length = 0 ∧ e' = e := by
      rcases Nat.eq_zero_or_pos (j - l.length) with h0 | h0
      · rw [h0] at he; simp at he; exact ⟨h0, he.symm⟩
      · rw [List.getElem?_eq_none (by simp; omega)] at he; cases he
    rw [q] at hw
    simp at hw
    subst hw
    exact ⟨ho, hf⟩

/-- A history at block hb. -/
structure Ht (w : World) (Z hb : Nat) (l : List Ev) (ps : List (List Wr)) (A : Option Addr) (cap : Nat) (m : Option Nat) : Prop where
  at_ : At w hb (.cells #[.slice A l.length cap, .map m] 59 (0, 0))
  row : w.ownsRow Z 34 13 (.slice A l.length cap) l.length (ecs l)
  mp : Mp w m l
  mz : ∀ b, m = some b → Z ≤ b
  right : Right l
  wss : Wss w Z l ps
  base : Z ≤ hb
/-- The blocks that a history writes. -/
def Hx (hb : Nat) (A : Option Addr) (m : Option Nat) (i : Nat) : Prop := i = hb ∨ ablk A = some i ∨ m = some i
section
variable {w w' : World} {Z hb : Nat} {l : List Ev} {ps : List (List Wr)} {A : Option Addr} {cap : Nat} {m : Option Nat}
theorem Ht.turn {X : Nat → Prop} (h : Ht w Z hb l ps A cap m) (t : Turn X w w') (h1 : ∀ i, Hx hb A m i → ¬ X i) (h2 : ∀ i, Wb l i → ¬ X i) : Ht w' Z hb l ps A cap m :=
  ⟨h.at_.turn t (h1 _ (.inl rfl)), own_grown h.row t fun k hk => h1 _ (.inr (.inl ((own_ablk ..).symm.trans hk))), h.mp.turn t fun b hb => h1 _ (.inr (.inr hb)), h.mz, h.right, h.wss.turn t h2, h.base⟩
theorem Ht.no (h : Ht w Z hb l ps A cap m) (t : Turn No w w') : Ht w' Z hb l ps A cap m := h.turn t (fun _ _ h => h) (fun _ _ h => h)
theorem Ht.hx (h : Ht w Z hb l ps A cap m) {i : Nat} (hi : Hx hb A m i) : Z ≤ i ∧ i < w.heap.size := by
  rcases hi with rfl | hi | hi
  · exact ⟨h.base, h.at_.lt⟩
  · obtain ⟨h1, cur, h2⟩ := own_at h.row hi
    exact ⟨h1, h2.lt⟩
  · exact ⟨h.mz _ hi, h.mp.lt _ hi⟩
theorem Ht.wb (h : Ht w Z hb l ps A cap m) {i : Nat} (hi : Wb l i) : Z ≤ i ∧ i < w.heap.size := by
  obtain ⟨h1, cur, h2⟩ := h.wss.at_ hi
  exact ⟨h1, h2.lt⟩
theorem Mp.at_ {w : World} {b : Nat} {l : List Ev} (h : Mp w (some b) l) : ∃ es clock, At w b (.map es clock) := by
  rcases h with ⟨h, _⟩ | ⟨b', n, hm, hn, hI⟩
  · cases h
  · cases hm; exact hI.obj
theorem Ht.apart (h : Ht w Z hb l ps A cap m) {i : Nat} (hi : Wb l i) : ¬ Hx hb A m i := by
  obtain ⟨_, cur, h2⟩ := h.wss.at_ hi
  rintro (rfl | hi | hi)
  · have := h2.eq h.at_; injection this with _ e; cases e
  · obtain ⟨_, cur', h3⟩ := own_at h.row hi
    have := h2.eq h3; injection this with _ e; cases e
  · subst hi
    obtain ⟨es, cl, h3⟩ := h.mp.at_
    have := h2.eq h3; cases this
theorem Ht.ab (h : Ht w Z hb l ps A cap m) : ablk A ≠ some hb := fun e => by
  obtain ⟨_, cur', h3⟩ := own_at h.row e
  have := h3.eq h.at_; injection this with _ e; cases e
theorem Ht.mb (h : Ht w Z hb l ps A cap m) : m ≠ some hb := fun e => by
  subst e
  obtain ⟨es, cl, h3⟩ := h.mp.at_
  have := h3.eq h.at_; cases this
theorem Ht.am (h : Ht w Z hb l ps A cap m) {b : Nat} (hm : m = some b) : ablk A ≠ some b := fun e => by
  subst hm
  obtain ⟨_, cur', h3⟩ := own_at h.row e
  obtain ⟨es, cl, h4⟩ := h.mp.at_
  have := h3.eq h4; cases this
end
/-- Somewhere. -/
def Hi (w : World) (Z hb : Nat) (l : List Ev) (ps : List (List Wr)) (X : Nat → Prop) : Prop := ∃ A cap m, Ht w Z hb l ps A cap m ∧ X = Hx hb A m
end Go.Proofs.Ythopiamiipmobaa
