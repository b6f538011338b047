/-
  Words for a node's memory: what its calls may turn; a list of children in two rows; Insert, Delete of a child.
-/
import Derived.Test.YtijlcehjlacihaaBs
import Derived.Test.YtijlcehjlacihaaII
namespace Go.Proofs.Ytijlcehjlacihaa
open Go.RowKit Go.Lib
set_option linter.unusedVariables false
set_option maxRecDepth 20000
set_option linter.unusedSimpArgs false

namespace NI

/-- The types of a shape's blocks. -/
def tys : List Nat := [57, 90, 93, 96, 5, 3]
/-- A block from Z on that can be a node's. -/
def Mine (Z : Dom) (w : World) (g : Nat) : Prop := Z.ok g ∧ ∃ c t f, At w g (.cells c t f) ∧ t ∈ tys
/-- w' is w but for blocks from Z on that can be a node's, and for new ones. -/
def Tz (Z : Dom) (w w' : World) : Prop := Turn (Mine Z w) w w'
theorem Tz.refl (Z : Dom) (w : World) : Tz Z w w := Turn.refl _ w
theorem Tz.of {X : Nat → Prop} {Z : Dom} {w w' : World} (h : Turn X w w') (hX : ∀ k, k < w.heap.size → X k → Mine Z w k) : Tz Z w w' := h.mono hX
theorem Tz.trans {Z : Dom} {a b c : World} (h : Tz Z a b) (k : Tz Z b c) : Tz Z a c := by
  refine Turn.then (Y := Mine Z b) h k fun i hi hm => Classical.byContradiction fun hn => hn ?_
  have := h.block i hi hn
  obtain ⟨hz, cc, t, f, hat, ht⟩ := hm
  exact ⟨hz, cc, t, f, by unfold At at hat ⊢; rw [← this]; exact hat, ht⟩
theorem Tz.no {Z : Dom} {w w' : World} (h : Turn No w w') : Tz Z w w' := Tz.of h fun _ _ hk => hk.elim
theorem At.mine {Z : Dom} {w : World} {g : Nat} {c : Array Value} {t : TypeId} {f : Nat × Nat} (h : At w g (.cells c t f)) (hz : Z.ok g) (ht : t ∈ tys) : Mine Z w g := ⟨hz, c, t, f, h, ht⟩
theorem At.tz {Z : Dom} {w w' : World} {g : Nat} {o : Obj} (h : At w g o) (k : Tz Z w w') (hn : ¬ Mine Z w g) : At w' g o := h.turn k hn
theorem not_mine_lt {Z : Dom} {w : World} {g : Nat} (h : ¬ Z.ok g) : ¬ Mine Z w g := fun m => h m.1
theorem not_mine_ty {Z : Dom} {w : World} {g : Nat} {c : Array Value} {t : TypeId} {f : Nat × Nat} (h : At w g (.cells c t f)) (ht : t ∉ tys) : ¬ Mine Z w g := fun m => by
  obtain ⟨_, c', t', f', h', ht'⟩ := m
  have := h.eq h'
  injection this with _ e _
  subst e
  exact ht ht'
theorem not_mine_map {Z : Dom} {w : World} {g : Nat} {o : Obj} (h : At w g o) (ho : ∀ c t f, o ≠ .cells c t f) : ¬ Mine Z w g := fun m => by
  obtain ⟨_, c', t', f', h', _⟩ := m
  exact ho _ _ _ (h.eq h')
theorem Tz.mono {Z Z' : Dom} {w w' : World} (h : Tz Z w w') (hz : Z'.le Z) : Tz Z' w w' := Turn.mono h fun k _ hk => ⟨hz.2 _ hk.1, hk.2⟩

def vsC (L : List (Nat × Int)) : List Int := L.map (·.2)
theorem vs_length (L : List (Nat × Int)) : (vsC L).length = L.length := by simp [vsC]
theorem vs_get {L : List (Nat × Int)} {j : Nat} {p : Nat × Int} (h : L[j]? = some p) : (vsC L)[j]? = some p.2 := by simp [vsC, h]
theorem vs_append (X Y : List (Nat × Int)) : vsC (X ++ Y) = vsC X ++ vsC Y := List.map_append ..
/-- What From tells. -/
def fromV : Option (Nat × Int) → Value
  | some p => .tuple #[.int .u8 (p.1 : Int), Value.int .i64 p.2, .bool true]
  | none => .tuple #[.int .u8 0, Value.int .i64 0, .bool false]
def getV (o : Option Int) : Value := .tuple #[Value.int .i64 (o.getD 0), .bool o.isSome]
/-- Two rows in a struct of the type t: children, their bytes rising. -/
structure Lst (w : World) (Z : Dom) (t : TypeId) (g : Nat) (L : List (Nat × Int)) (A B : Option Addr) (ca cb : Nat) : Prop where
  asc : Asc L
  byt : Byt L
  zg : Z.ok g
  ty : t = 57 ∨ t = 90
  at_ : At w g (.cells #[.slice A L.length ca, .slice B L.length cb] t (0, 0))
  bs : w.ownsRow Z 5 1 (.slice A L.length ca) L.length (bcs (ksC L))
  xs : w.ownsRow Z 3 1 (.slice B L.length cb) L.length (ics (vsC L))
theorem Lst.t1 {w : World} {Z : Dom} {t : TypeId} {g : Nat} {L : List (Nat × Int)} {A B : Option Addr} {ca cb : Nat} (h : Lst w Z t g L A B ca cb) : t ∈ tys ∧ t ≠ 5 ∧ t ≠ 3 := by
  rcases h.ty with rfl | rfl <;> exact ⟨by decide, by decide, by decide⟩
theorem Lst.no {w w' : World} {Z : Dom} {t : TypeId} {g : Nat} {L : List (Nat × Int)} {A B : Option Addr} {ca cb : Nat} (h : Lst w Z t g L A B ca cb) (k : Turn No w w') : Lst w' Z t g L A B ca cb :=
  ⟨h.asc, h.byt, h.zg, h.ty, h.at_.no k, own_grown h.bs k fun _ _ h => h, own_grown h.xs k fun _ _ h => h⟩
theorem low_lt {L : List (Nat × Int)} (h : Asc L) {b : Nat} {y : Int} (hg : getC L b = some y) : (lowC L b).length < L.length ∧ L[(lowC L b).length]? = some (b, y) := by
  have hs := asc_some h hg
  refine ⟨?_, ?_⟩
  · have := congrArg List.length hs
    simp only [List.length_append, List.length_cons] at this
    omega
  · have := congrArg (fun l : List (Nat × Int) => l[(lowC L b).length]?) hs
    simp only [List.getElem?_append_right (Nat.le_refl _), Nat.sub_self, List.getElem?_cons_zero] at this
    exact this
theorem low_le {L : List (Nat × Int)} (b : Nat) : (lowC L b).length ≤ L.length := List.length_filter_le _ _
/-- Insert of a byte. -/
theorem insB {L : List (Nat × Int)} (hL : Asc L) {b : Nat} (x : Int) (hg : getC L b = none) {w : World} {Z ca : Nat} {A : Option Addr} (h : w.ownsRow Z 5 1 (.slice A L.length ca) L.length (bcs (ksC L))) (hn : L.length ≤ 50000) (vb : Nat)
    (hp : At w vb (.cells #[.int .u8 (b : Int)] 5 (0, 0))) (hne : ablk A ≠ some vb) (hz : Z ≤ w.heap.size) :
    Calls Try.prog 70 #[.slice A L.length ca, .int .i64 ((lowC L b).length : Int), .slice (some ⟨vb, 0, none⟩) 1 1] w fun e w' => ∃ B cap', e = .returned (.slice (some ⟨B, 0, none⟩) (L.length + 1) cap') ∧
      w'.ownsRow Z 5 1 (.slice (some ⟨B, 0, none⟩) (L.length + 1) cap') (L.length + 1) (bcs (ksC (putC L b x))) ∧ Turn (fun k => ablk A = some k) w w' := by
  have hs := asc_none hL hg
  have hl := congrArg List.length hs
  rw [List.length_append] at hl
  have e1 : ksC L = ksC (lowC L b) ++ ksC (highC L b) := by rw [← ks_append, ← hs]
  have := IB.insert_any (w := w) (Z := Z) (cap := ca) (A := A) (ksC (lowC L b)) (ksC (highC L b)) (by rw [ks_length, ks_length, ← hl, ← e1]; exact h) (by rw [ks_length, ks_length]; omega) vb b hp (by rw [own_ablk]; exact hne) hz
  rw [ks_length, ks_length, ← hl] at this
  refine this.mono ?_
  rintro e w' ⟨B, cap', rfl, ho, ht, _⟩
  refine ⟨B, cap', rfl, ?_, ht.mono fun k _ hk => by rw [own_ablk] at hk; exact hk⟩
  rw [show ksC (putC L b x) = ksC (lowC L b) ++ b :: ksC (highC L b) by simp [putC, ksC]]
  exact ho
theorem insT {L : List (Nat × Int)} (hL : Asc L) {b : Nat} (x : Int) (hg : getC L b = none) {w : World} {Z ca : Nat} {A : Option Addr} (h : w.ownsRow Z 3 1 (.slice A L.length ca) L.length (ics (vsC L))) (hn : L.length ≤ 50000) (vb : Nat)
    (hp : At w vb (.cells #[Value.int .i64 x] 3 (0, 0))) (hne : ablk A ≠ some vb) (hz : Z ≤ w.heap.size) :
    Calls Try.prog 71 #[.slice A L.length ca, .int .i64 ((lowC L b).length : Int), .slice (some ⟨vb, 0, none⟩) 1 1] w fun e w' => ∃ B cap', e = .returned (.slice (some ⟨B, 0, none⟩) (L.length + 1) cap') ∧
      w'.ownsRow Z 3 1 (.slice (some ⟨B, 0, none⟩) (L.length + 1) cap') (L.length + 1) (ics (vsC (putC L b x))) ∧ Turn (fun k => ablk A = some k) w w' := by
  have hs := asc_none hL hg
  have hl := congrArg List.length hs
  rw [List.length_append] at hl
  have e1 : vsC L = vsC (lowC L b) ++ vsC (highC L b) := by rw [← vs_append, ← hs]
  have := II.insert_any (w := w) (Z := Z) (cap := ca) (A := A) (vsC (lowC L b)) (vsC (highC L b)) (by rw [vs_length, vs_length, ← hl, ← e1]; exact h) (by rw [vs_length, vs_length]; omega) vb x hp (by rw [own_ablk]; exact hne) hz
  rw [vs_length, vs_length, ← hl] at this
  refine this.mono ?_
  rintro e w' ⟨B, cap', rfl, ho, ht, _⟩
  refine ⟨B, cap', rfl, ?_, ht.mono fun k _ hk => by rw [own_ablk] at hk; exact hk⟩
  rw [show vsC (putC L b x) = vsC (lowC L b) ++ x :: vsC (highC L b) by simp [putC, vsC]]
  exact ho
theorem delB {L : List (Nat × Int)} (hL : Asc L) {b : Nat} {y : Int} (hg : getC L b = some y) {w : World} {Z ca : Nat} {A : Option Addr} (h : w.ownsRow Z 5 1 (.slice A L.length ca) L.length (bcs (ksC L))) :
    ∃ ga, A = some ⟨ga, 0, none⟩ ∧ Calls Try.prog 68 #[.slice A L.length ca, .int .i64 ((lowC L b).length : Int), .int .i64 ((lowC L b).length + 1 : Int)] w fun e w' => e = .returned (.slice A (delC L b).length ca) ∧
      w'.ownsRow Z 5 1 (.slice A (delC L b).length ca) (delC L b).length (bcs (ksC (delC L b))) ∧ Turn (fun k => k = ga) w w' := by
  have hs := asc_some hL hg
  have hl := congrArg List.length hs
  rw [List.length_append, List.length_cons] at hl
  have e1 : ksC L = ksC (lowC L b) ++ b :: ksC (highC L b) := by
    rw [show b :: ksC (highC L b) = ksC ((b, y) :: highC L b) from rfl, ← ks_append, ← hs]
  have hcap := own_capN h
  rw [e1] at h
  obtain ⟨ga, cur, rfl, hzg, hm, hd⟩ := IB.Hd.of_own h (by simp [ks_length, hl]) (by omega)
  refine ⟨ga, rfl, ?_⟩
  have := IB.delete_any (ksC (lowC L b)) (ksC (highC L b)) b hd hm
  rw [ks_length, ks_length, ← hl] at this
  refine this.mono ?_
  rintro e w' ⟨rfl, ⟨cur', hd'⟩, ht⟩
  have e2 : (delC L b).length = (lowC L b).length + (highC L b).length := List.length_append ..
  have e3 : ksC (delC L b) = ksC (lowC L b) ++ ksC (highC L b) := ks_append ..
  have := hd'.own hzg hm
  rw [List.length_append, ks_length, ks_length, ← e2, ← e3] at this
  exact ⟨by rw [e2], this, ht⟩
theorem delT {L : List (Nat × Int)} (hL : Asc L) {b : Nat} {y : Int} (hg : getC L b = some y) {w : World} {Z ca : Nat} {A : Option Addr} (h : w.ownsRow Z 3 1 (.slice A L.length ca) L.length (ics (vsC L))) :
    ∃ ga, A = some ⟨ga, 0, none⟩ ∧ Calls Try.prog 69 #[.slice A L.length ca, .int .i64 ((lowC L b).length : Int), .int .i64 ((lowC L b).length + 1 : Int)] w fun e w' => e = .returned (.slice A (delC L b).length ca) ∧
      w'.ownsRow Z 3 1 (.slice A (delC L b).length ca) (delC L b).length (ics (vsC (delC L b))) ∧ Turn (fun k => k = ga) w w' := by
  have hs := asc_some hL hg
  have hl := congrArg List.length hs
  rw [List.length_append, List.length_cons] at hl
  have e1 : vsC L = vsC (lowC L b) ++ y :: vsC (highC L b) := by
    rw [show y :: vsC (highC L b) = vsC ((b, y) :: highC L b) from rfl, ← vs_append, ← hs]
  have hcap := own_capN h
  rw [e1] at h
  obtain ⟨ga, cur, rfl, hzg, hm, hd⟩ := II.Hd.of_own h (by simp [vs_length, hl]) (by omega)
  refine ⟨ga, rfl, ?_⟩
  have := II.delete_any (vsC (lowC L b)) (vsC (highC L b)) y hd hm
  rw [vs_length, vs_length, ← hl] at this
  refine this.mono ?_
  rintro e w' ⟨rfl, ⟨cur', hd'⟩, ht⟩
  have e2 : (delC L b).length = (lowC L b).length + (highC L b).length := List.length_append ..
  have e3 : vsC (delC L b) = vsC (lowC L b) ++ vsC (highC L b) := vs_append ..
  have := hd'.own hzg hm
  rw [List.length_append, vs_length, vs_length, ← e2, ← e3] at this
  exact ⟨by rw [e2], this, ht⟩
theorem bs_no (L : List (Nat × Int)) (hL : Asc L) (A : Option Addr) (c b : Nat) (w : World) (hR : Row w A (bcs (ksC L))) (hn : L.length ≤ 100000) :
    Calls Try.prog 67 #[.slice A L.length c, .int .u8 (b : Int)] w fun e w' => e = .returned (.tuple #[.int .i64 ((lowC L b).length : Int), .bool (getC L b).isSome]) ∧ Turn No w w' :=
  (bs_any L hL A c b w hR hn).mono fun e w' h => ⟨h.1, by obtain ⟨q, rfl⟩ := h.2; exact (Turn.refl No w).drewN q⟩
end NI
end Go.Proofs.Ytijlcehjlacihaa
