/-
  The function that EpochSafe retires.
-/
import Derived.Test.YthohhehelnkpgaaSafe
namespace Go.Proofs.Ythohhehelnkpgaa
open Go.RowKit Go.Maps Go.IntWalk Go.Lib
set_option linter.unusedVariables false

def FS (ob wb nb rb : Nat) : Value := .func (.func 24) #[] #[.pointer (some ⟨ob, 0, none⟩), .pointer (some ⟨wb, 0, none⟩), .pointer (some ⟨nb, 0, none⟩), .pointer (some ⟨rb, 0, none⟩)]
def SaT (t : TypeId) : Prop := Eo t ∨ t = 3 ∨ t = 4
structure SafR (Z ob wb rb pb : Nat) (b : Nat → Nat → Bool) (nw : Nat) (ns : List Int) (fs : List Value) (gone : Nat) (w : World) (wv rv : Value) : Prop where
  o : At w ob (.cells #[.bool false] 4 (0, 0))
  w_ : At w wb (.cells #[wv] 44 (0, 0))
  r : At w rb (.cells #[rv] 27 (0, 0))
  rows : w.ownsRow Z 43 8 wv nw (flat8 b nw)
  nums : w.ownsRow Z 3 1 rv ns.length (ns.map (Value.int .i64))
  apart : wv.ownBlock ≠ some pb
  funcs : ∀ i f, fs[i]? = some f → ∃ nb, f = FS ob wb nb rb ∧ Z ≤ nb ∧ At w nb (.cells #[.int .i64 ((gone + i : Nat) : Int)] 3 (0, 0)) ∧ rv.ownBlock ≠ some nb
  base : Z ≤ ob ∧ Z ≤ wb ∧ Z ≤ rb
def SafL (Z ob wb rb pb : Nat) (E : Ab) (w : World) : Prop := ∃ wv rv, SafR Z ob wb rb pb (onw E) E.len (rn E) E.fs E.gone w wv rv

theorem SafR.turn {Z ob wb rb pb nw gone : Nat} {b : Nat → Nat → Bool} {ns : List Int} {fs : List Value} {w w' : World} {wv rv : Value} {X : Nat → Prop} (h : SafR Z ob wb rb pb b nw ns fs gone w wv rv) (t : Turn X w w') (h1 : ∀ i c t f, X i → At w i (.cells c t f) → Eo t) : SafR Z ob wb rb pb b nw ns fs gone w' wv rv := by
  have no : ∀ i c t f, At w i (.cells c t f) → ¬ Eo t → ¬ X i := fun i c t f hi ht hx => ht (h1 i c t f hx hi)
  have e4 : ¬ Eo 4 := by rintro (h | h) <;> cases h
  have e44 : ¬ Eo 44 := by rintro (h | h) <;> cases h
  have e27 : ¬ Eo 27 := by rintro (h | h) <;> cases h
  have e43 : ¬ Eo 43 := by rintro (h | h) <;> cases h
  have e3 : ¬ Eo 3 := by rintro (h | h) <;> cases h
  exact ⟨h.o.turn t (no _ _ _ _ h.o e4), h.w_.turn t (no _ _ _ _ h.w_ e44), h.r.turn t (no _ _ _ _ h.r e27), own_turn h.rows t (fun i c _ hi _ => no _ _ _ _ hi e43), own_turn h.nums t (fun i c _ hi _ => no _ _ _ _ hi e3), h.apart,
    fun i f hi => by
      obtain ⟨nb, hf, hz, hn, hne⟩ := h.funcs i f hi
      exact ⟨nb, hf, hz, hn.turn t (no _ _ _ _ hn e3), hne⟩, h.base⟩
theorem SafR.keep {Z ob wb rb pb nw gone : Nat} {b : Nat → Nat → Bool} {ns : List Int} {fs : List Value} {w w' : World} {wv rv : Value} (h : SafR Z ob wb rb pb b nw ns fs gone w wv rv) (t : Tn Eo Z w w') : SafR Z ob wb rb pb b nw ns fs gone w' wv rv :=
  h.turn t fun i c t f hx hi => by
    rcases hx with ⟨_, (⟨es, cl, h2⟩ | ⟨c2, t2, f2, h2, h3⟩)⟩
    · cases hi.eq h2
    · have := hi.eq h3
      injection this with _ e _
      rw [e]; exact h2

theorem zero8 (w : World) : (Op.equalIn 10000 43 (Value.agg #[.bool false, .bool false, .bool false, .bool false, .bool false, .bool false, .bool false, .bool false]) (Value.agg #[.bool false, .bool false, .bool false, .bool false, .bool false, .bool false, .bool false, .bool false])).run Try.prog w = .ok true w := by kernel_rfl

set_option maxRecDepth 100000 in
set_option maxHeartbeats 1000000 in
theorem safe_run {Z eb ob wb rb pb : Nat} {E : Ab} {w : World} {f : Value} {r : List Value} (hf : E.fs = f :: r) (h0 : cntk E.P E.gone = 0) (hw : E.wf) (hL : SafL Z ob wb rb pb E w) (hE : Ep Z w eb E.take) :
    ∃ fn caps, f = .func (.func fn) #[] caps ∧ Enters Try.prog fn ∧ Calls Try.prog fn caps w fun e w' => e = .returned (.tuple #[]) ∧ SafL Z ob wb rb pb E.take w' ∧ Ep Z w' eb E.take ∧ Tn SaT Z w w' := by
  obtain ⟨wv, rv, hR⟩ := hL
  obtain ⟨nb, rfl, hzn, hnb, hne⟩ := hR.funcs 0 f (by rw [hf]; rfl)
  refine ⟨24, _, rfl, enters_of Try.func24 (by kernel_rfl) rfl, ?_⟩
  have hlt : E.gone < E.len := by
    unfold Ab.len; rw [hf]; simp
  have hsm : E.len ≤ 100000 := hw.small.2
  obtain ⟨A, cap, rfl⟩ := own_form hR.rows
  obtain ⟨A2, cap2, rfl⟩ := own_form hR.nums
  rw [rn_len] at *
  obtain ⟨g, rfl, _, hc1, hzg, hgl, _, hcell, _, _⟩ := own_at hR.rows (j := E.gone * 8) (by rw [flat8_len]; omega)
  obtain ⟨g2, rfl, _, hc2, hzg2, hg2l, ⟨cc2, hg2⟩, hcell2, hth2, hput2⟩ := own_at hR.nums (j := E.gone) (by rw [List.length_map, rn_len]; exact hlt)
  have fa := flat8_at (onw E) E.len E.gone
  have q0 := hcell _ _ (fa 0 hlt (by omega))
  have q1 := hcell _ _ (fa 1 hlt (by omega))
  have q2 := hcell _ _ (fa 2 hlt (by omega))
  have q3 := hcell _ _ (fa 3 hlt (by omega))
  have q4 := hcell _ _ (fa 4 hlt (by omega))
  have q5 := hcell _ _ (fa 5 hlt (by omega))
  have q6 := hcell _ _ (fa 6 hlt (by omega))
  have q7 := hcell _ _ (fa 7 hlt (by omega))
  simp only [onw_ripe hw h0, Nat.add_zero] at q0 q1 q2 q3 q4 q5 q6 q7
  have p2 := hcell2 E.gone (.int .i64 0) (by rw [List.getElem?_map, rn_at hlt, if_neg (by omega)]; rfl)
  have z2 := hth2 E.gone
  have c0 := hR.o.cell 0
  have z0 := hR.o.thawed 0
  have c1 := hR.w_.cell 0
  have c3 := hR.r.cell 0
  have cn := hnb.cell 0
  have lo := hR.o.lt
  have neo : ¬ g2 = ob := fun e => hR.o.ne hg2 (by intro e; injection e with _ e; cases e) e.symm
  have nro : ¬ rb = ob := hR.r.ne hR.o (by intro e; injection e with _ e; cases e)
  have nno : ¬ nb = ob := hnb.ne hR.o (by intro e; injection e with _ e; cases e)
  simp at c0 c1 c3 cn
  have HH := Lib.hid (And.intro hR (And.intro hE (And.intro hf hg2)))
  have HW := Lib.hid (And.intro hw h0)
  clear hR hE hcell hcell2 hth2 hput2 fa hf hg2 hnb hw h0
  have b0 : (0 : Int) ≤ (E.gone : Int) := by omega
  have b1 : (E.gone : Int) < (E.len : Int) := by omega
  have heq := zero8
  go_enter Try.func24, Try.ntmps24
  go_wp2_with fail
  go_end0
  obtain ⟨hR, hE, hf, hg2⟩ := HH.out
  obtain ⟨hw, h0⟩ := HW.out
  have hne0 : E.fs ≠ [] := by rw [hf]; simp
  have tl := Ab.take_len hne0
  have t1 := set_turn w ob 0 (.bool false)
  have o1 : At (w.setCell ⟨ob, 0, none⟩ (.bool false)) ob (.cells #[.bool false] 4 (0, 0)) := hR.o.set 0 (.bool false)
  have nums1 := own_turn hR.nums t1 (fun i c _ hi _ e => by subst e; cases hi.eq hR.o)
  obtain ⟨g2', hA2, _, _, _, _, ⟨cc3, hg3⟩, _, _, hput⟩ := own_at nums1 (j := E.gone) (by rw [List.length_map, rn_len]; exact hlt)
  obtain rfl : g2 = g2' := by injection hA2 with h; injection h
  have hnum := hput (.int .i64 1)
  have t2 := set_turn (w.setCell ⟨ob, 0, none⟩ (.bool false)) g2 E.gone (.int .i64 1)
  have e1 := hE.other hR.o (by decide) (by decide) t1
  have tt : Tn SaT Z w (w.setCell ⟨ob, 0, none⟩ (.bool false)) := Tn.set hR.o (Or.inr (Or.inr rfl)) hR.base.1 0 _
  refine ⟨rfl, ⟨.slice (some ⟨g, 0, none⟩) E.len cap, .slice (some ⟨g2, 0, none⟩) E.len cap2, ?_⟩, e1.other hg3 (by decide) (by decide) t2, tt.trans (Tn.set hg3 (Or.inr (Or.inl rfl)) hzg2 _ _)⟩
  refine ⟨o1.turn t2 (fun e => neo e.symm), (hR.w_.turn t1 (fun e => by subst e; cases hR.w_.eq hR.o)).turn t2 (fun e => by subst e; cases hR.w_.eq hg2), (hR.r.turn t1 nro).turn t2 (fun e => by subst e; cases hR.r.eq hg2), ?_, ?_, hR.apart, ?_, hR.base⟩
  · rw [tl, show onw E.take = onw E from rfl]
    exact own_turn (own_turn hR.rows t1 (fun i c _ hi _ e => by subst e; cases hi.eq hR.o)) t2 (fun i c _ hi _ e => by subst e; cases hi.eq hg3)
  · rw [rn_len, tl, rn_take hne0, List.map_set]
    rw [rn_len] at hnum
    exact hnum
  · intro i f hi
    obtain ⟨nb', h1, h2, h3, h4⟩ := hR.funcs (i + 1) f (by
      rw [hf]
      rw [show E.take.fs = r by show E.fs.tail = r; rw [hf]; rfl] at hi
      simpa using hi)
    refine ⟨nb', h1, h2, ?_, h4⟩
    rw [show E.take.gone + i = E.gone + (i + 1) by show E.gone + 1 + i = _; omega]
    exact (h3.turn t1 (fun e => by subst e; cases h3.eq hR.o)).turn t2 (fun e => h4 (by subst e; rfl))

theorem safe_plain (Z eb ob wb rb pb : Nat) : Plain SaT Z eb (SafL Z ob wb rb pb) where
  types := fun t h => Or.inl h
  box := by rintro ((h | h) | h | h) <;> cases h
  coll := fun E b w ⟨wv, rv, h⟩ => ⟨wv, rv, h.o, h.w_, h.r, h.rows, h.nums, h.apart, h.funcs, h.base⟩
  keep := fun E w w' ⟨wv, rv, h⟩ ht => ⟨wv, rv, h.keep ht⟩
  run := fun E f r w hf h0 hw hL hE => safe_run hf h0 hw hL hE
end Go.Proofs.Ythohhehelnkpgaa
