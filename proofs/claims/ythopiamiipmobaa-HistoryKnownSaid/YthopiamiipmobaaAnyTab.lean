/-
  A region that draws its order, whose operations each fill one slot: by a table of what each slot must hold.
-/
import Derived.Test.YthopiamiipmobaaAnyInv
import Derived.Test.YthopiamiipmobaaOwn
namespace Go.Proofs.Ythopiamiipmobaa
open Go.RowKit
set_option linter.unusedVariables false

def updV (vs : Nat → Value) (i : Nat) (v : Value) : Nat → Value := fun j => if j = i then v else vs j
/-- The frame is F of the slots' values; each slot whose operation has come up holds what G says. -/
def Tab (ops : Array Oper) (F : (Nat → Value) → Act) (G : Nat → World → Value → Prop) (w0 : World) (listed : Array Bool) (a : Act) (w : World) : Prop :=
  listed.size = ops.size ∧ ∃ vs, a = F vs ∧ Turn No w0 w ∧ ∀ j, listed.getD j false = true → G j w (vs j)
section
variable {P : Program} {ops : Array Oper} {Q : Exit → Act → World → Prop} {F : (Nat → Value) → Act} {G : Nat → World → Value → Prop} {w0 w : World} {listed : Array Bool} {vs : Nat → Value}
theorem tab_step (hG : ∀ i w w' v, Turn No w w' → G i w v → G i w' v) (hs : listed.size = ops.size) (ht : Turn No w0 w) (hv : ∀ j, listed.getD j false = true → G j w (vs j)) {i : Nat} {o : Oper} (ho : ops[i]? = some o) (hg : o.guard = none)
    (hput : ∀ v, (F vs).put o.dst v = F (updV vs i v))
    (hrun : ∀ K : Act → World → Prop, (∀ v w', Turn No w w' → G i w' v → K ((F vs).put o.dst v) w') → Oper.wp P o (F vs) w K Q) :
    wpOp P ops Q i (Tab ops F G w0 (listed.setIfInBounds i true)) (F vs) w := by
  have hw : Region.wanted o (yielded ops (F vs).tmps) = true := by simp [Region.wanted, hg]
  unfold wpOp
  rw [ho]
  simp only [hw, if_true]
  refine .inl (hrun _ fun v w' t g => ?_)
  refine ⟨by simpa using hs, _, hput v, ht.trans t, fun j hj => ?_⟩
  unfold updV
  split
  · rename_i e; subst e; exact g
  · rename_i hne
    rw [getD_set_ne false (Ne.symm hne)] at hj
    exact hG j w w' _ t (hv j hj)
theorem tab_all (md : Region.Mode) (hs : listed.size = ops.size) (hafter : ∀ (i : Nat) (o : Oper), ops[i]? = some o → ∀ e ∈ o.after, e.on < i) (h : Region.ready md ops listed = []) : ∀ j, j < ops.size → listed.getD j false = true := by
  intro j
  induction j using Nat.strongRecOn with
  | ind j ih =>
    intro hj
    cases hb : listed.getD j false with
    | true => rfl
    | false =>
      exfalso
      have hj2 : j < listed.size := by omega
      have hbt : listed.getD j true = false := by simpa [hj2] using hb
      have hr : j ∈ Region.ready md ops listed := mem_ready.2 ⟨hbt, ops[j], Array.getElem?_eq_getElem hj, fun e he _ => by
        have := hafter j _ (Array.getElem?_eq_getElem hj) e he
        exact ih e.on this (by omega)⟩
      rw [h] at hr
      cases hr
/-- The region: each operation runs, from the values of those that it waits for, to a good value of its own. -/
theorem region_tab {id : Nat} {a : Act} (hm : P.follows .mixedOrders = true) (vs0 : Nat → Value) (ha : a = F vs0) (hG : ∀ i w w' v, Turn No w w' → G i w v → G i w' v)
    (hafter : ∀ (i : Nat) (o : Oper), ops[i]? = some o → ∀ e ∈ o.after, e.on < i) (hguard : ∀ (i : Nat) (o : Oper), ops[i]? = some o → o.guard = none)
    (hput : ∀ (i : Nat) (o : Oper) vs v, ops[i]? = some o → (F vs).put o.dst v = F (updV vs i v))
    (hrun : ∀ (i : Nat) (o : Oper) (vs : Nat → Value) (w' : World), ops[i]? = some o → Turn No w w' → (∀ e ∈ o.after, Region.binds .any e = true → G e.on w' (vs e.on)) →
      ∀ K : Act → World → Prop, (∀ v w2, Turn No w' w2 → G i w2 v → K ((F vs).put o.dst v) w2) → Oper.wp P o (F vs) w' K Q)
    (hdone : ∀ vs w', Turn No w w' → (∀ j, j < ops.size → G j w' (vs j)) → Q .normal (F vs) w') : (Code.region id ops true).wp P Q a w := by
  refine region_inv hm (Tab ops F G w) ?_ (fun listed a w' i hI hi => ?_) (fun listed a w' hI hr => ?_)
  · refine ⟨by simp, vs0, ha, (Turn.refl No w).drew, fun j hj => ?_⟩
    by_cases h : j < ops.size
    · simp [h] at hj
    · simp [h] at hj
  · obtain ⟨hs, vs, rfl, ht, hv⟩ := hI
    obtain ⟨_, o, ho, hall⟩ := mem_ready.1 hi
    exact tab_step hG hs ht hv ho (hguard i o ho) (fun v => hput i o vs v ho) (hrun i o vs w' ho ht fun e he hb => hv _ (hall e he hb))
  · obtain ⟨hs, vs, rfl, ht, hv⟩ := hI
    exact hdone vs w' ht fun j hj => hv j (tab_all .any hs hafter hr j hj)
end
end Go.Proofs.Ythopiamiipmobaa
