/-
  A region that draws its order, by what stands while some of its operations have come up; the frame by its slots.
-/
import Derived.Test.YtengbkopihiiaaaBas
import Derived.Orders
import Derived.Great.Frames
namespace Go.Proofs.Ytengbkopihiiaaa
open Go.RowKit Go.Lib
set_option linter.unusedVariables false
set_option maxRecDepth 20000
set_option linter.unusedSimpArgs false

def open_ (listed : Array Bool) : Nat := listed.toList.count false
theorem open_zero {listed : Array Bool} (h : open_ listed = 0) (j : Nat) : listed.getD j true = true := by
  unfold open_ at h
  rw [List.count_eq_zero] at h
  cases hj : listed[j]? with
  | none => simp [hj]
  | some b =>
    cases b with
    | true => simp [hj]
    | false => exact absurd (by rw [← Array.getElem?_toList] at hj; exact List.mem_of_getElem? hj) h
theorem open_set {listed : Array Bool} {i : Nat} (h : listed.getD i true = false) : open_ (listed.setIfInBounds i true) + 1 = open_ listed := by
  have hi : i < listed.size := by
    rcases Nat.lt_or_ge i listed.size with h1 | h1
    · exact h1
    · simp [Array.getElem?_eq_none h1] at h
  have hv : listed.toList[i]'(by simpa using hi) = false := by simpa [hi] using h
  unfold open_
  rw [Array.toList_setIfInBounds, List.count_set (by simpa using hi), hv]
  have hp : 0 < listed.toList.count false := List.count_pos_iff.2 (by rw [← hv]; exact List.getElem_mem _)
  rw [if_pos (by rfl), if_neg (by simp)]
  omega
theorem any_inv {P : Program} {md : Region.Mode} {ops : Array Oper} {Q : Exit → Act → World → Prop} (I : Array Bool → Act → World → Prop)
    (hstep : ∀ listed a w i, I listed a w → i ∈ Region.ready md ops listed → wpOp P ops Q i (I (listed.setIfInBounds i true)) a w)
    (hdone : ∀ listed a w, I listed a w → Region.ready md ops listed = [] → Q .normal a w) :
    ∀ (fuel : Nat) (listed : Array Bool) (a : Act) (w : World), open_ listed ≤ fuel → I listed a w → wpAny P md ops Q fuel listed a w
  | 0, listed, a, w, hf, hI => by
    have h0 : Region.ready md ops listed = [] := by
      apply List.eq_nil_iff_forall_not_mem.2
      intro j hj
      have h1 := (mem_ready.1 hj).1
      rw [open_zero (by omega) j] at h1
      cases h1
    exact ⟨h0, hdone _ _ _ hI h0⟩
  | fuel + 1, listed, a, w, hf, hI => by
    refine ⟨fun h0 => hdone _ _ _ hI h0, fun i hi => ?_⟩
    refine wpOp_mono (fun a' w' h' => any_inv I hstep hdone fuel _ a' w' ?_ h') (hstep _ _ _ _ hI hi)
    have := open_set (mem_ready.1 hi).1
    omega
/-- The beginning of such a region. -/
theorem region_inv {P : Program} {ops : Array Oper} {Q : Exit → Act → World → Prop} {id : Nat} {a : Act} {w : World} (hm : P.follows .mixedOrders = true) (I : Array Bool → Act → World → Prop)
    (h0 : I (Array.replicate ops.size false) a w.drew)
    (hstep : ∀ listed a w i, I listed a w → i ∈ Region.ready .any ops listed → wpOp P ops Q i (I (listed.setIfInBounds i true)) a w)
    (hdone : ∀ listed a w, I listed a w → Region.ready .any ops listed = [] → Q .normal a w) : (Code.region id ops true).wp P Q a w := by
  refine wp_region_any hm (any_inv I hstep hdone _ _ _ _ ?_ h0)
  unfold open_
  simp

/-- The frame is a but for the slots of sl. -/
def Frm (a : Act) (sl : List Nat) (b : Act) : Prop := b.tmps.size = a.tmps.size ∧ b.defers = a.defers ∧ ∀ j, j ∉ sl → b.eval (.tmp j) = a.eval (.tmp j)
theorem Frm.put {a b : Act} {sl : List Nat} (h : Frm a sl b) {s : Nat} (hs : s ∈ sl) (v : Value) : Frm a sl (b.put (some s) v) :=
  ⟨by rw [Act.size_put]; exact h.1, by rw [Act.defers_put']; exact h.2.1, fun j hj => by
    have hne : s ≠ j := fun e => hj (by rw [← e]; exact hs)
    rw [Act.eval_put_ne _ _ _ _ hne]; exact h.2.2 j hj⟩
theorem act_ext {a b : Act} (h1 : a.tmps.size = b.tmps.size) (h2 : a.defers = b.defers) (h : ∀ j, a.eval (.tmp j) = b.eval (.tmp j)) : a = b := by
  obtain ⟨ta, da⟩ := a
  obtain ⟨tb, db⟩ := b
  simp only at h1 h2
  subst h2
  congr 1
  refine Array.ext h1 fun j hj hk => ?_
  have := h j
  simp only [Act.eval, Array.getD_eq_getD_getElem?] at this
  rwa [Array.getElem?_eq_getElem hj, Array.getElem?_eq_getElem hk] at this
/-- The frame, with the slots put. -/
def puts (a : Act) : List (Nat × Value) → Act
  | [] => a
  | p :: r => (puts a r).put (some p.1) p.2
theorem puts_size (a : Act) : ∀ l, (puts a l).tmps.size = a.tmps.size
  | [] => rfl
  | p :: r => by rw [puts, Act.size_put, puts_size a r]
theorem puts_defers (a : Act) : ∀ l, (puts a l).defers = a.defers
  | [] => rfl
  | p :: r => by rw [puts, Act.defers_put', puts_defers a r]
theorem puts_eval (a b : Act) (hs : b.tmps.size = a.tmps.size) : ∀ (sl : List Nat), (∀ s ∈ sl, s < a.tmps.size) → ∀ j, (puts a (sl.map fun s => (s, b.eval (.tmp s)))).eval (.tmp j) = if j ∈ sl then b.eval (.tmp j) else a.eval (.tmp j)
  | [], _, j => by simp [puts]
  | s :: r, h, j => by
    have ih := puts_eval a b hs r (fun x hx => h x (List.mem_cons_of_mem _ hx)) j
    rw [List.map_cons, puts]
    by_cases e : j = s
    · subst e
      rw [Act.eval_put_same _ _ _ (by rw [puts_size]; exact h j (List.mem_cons_self ..)), if_pos (List.mem_cons_self ..)]
    · rw [Act.eval_put_ne _ _ _ _ (fun h => e h.symm), ih]
      simp only [List.mem_cons, e, false_or]
theorem Frm.eq {a b : Act} {sl : List Nat} (h : Frm a sl b) (hlt : ∀ s ∈ sl, s < a.tmps.size) : b = puts a (sl.map fun s => (s, b.eval (.tmp s))) := by
  refine act_ext (by rw [puts_size]; exact h.1) (by rw [puts_defers]; exact h.2.1) fun j => ?_
  rw [puts_eval a b h.1 sl hlt]
  split
  · rfl
  · rename_i hj; exact h.2.2 j hj
def inL (listed : Array Bool) : Nat → Bool := fun j => listed.getD j false
theorem inL_set {listed : Array Bool} {i n : Nat} (hs : listed.size = n) (hi : i < n) : inL (listed.setIfInBounds i true) = fun j => if j = i then true else inL listed j := by
  funext j
  unfold inL
  by_cases e : j = i
  · subst e
    rw [if_pos rfl]
    simp [Array.getD_eq_getD_getElem?, hs, hi]
  · rw [if_neg e]
    simp only [Array.getD_eq_getD_getElem?]
    rw [Array.getElem?_setIfInBounds_ne (fun h => e h.symm)]
/-- A region that draws its order, by what stands while some of its operations have come up. -/
theorem region_J {P : Program} {ops : Array Oper} {Q : Exit → Act → World → Prop} {id : Nat} {a : Act} {w : World} (hm : P.follows .mixedOrders = true) (sl : List Nat) (J : (Nat → Bool) → Act → World → Prop)
    (h0 : J (fun _ => false) a w.drew)
    (hops : ∀ (i : Nat) (o : Oper), ops[i]? = some o → o.guard = none ∧ (∀ e ∈ o.after, Region.binds .any e = true → e.on < i) ∧ (∀ s, o.dst = some s → s ∈ sl))
    (hrun : ∀ (i : Nat) (o : Oper), ops[i]? = some o → ∀ L a' w', Frm a sl a' → J L a' w' → L i = false → (∀ e ∈ o.after, Region.binds .any e = true → L e.on = true) →
      ∀ K : Act → World → Prop, (∀ v w2, J (fun j => if j = i then true else L j) (a'.put o.dst v) w2 → K (a'.put o.dst v) w2) → Oper.wp P o a' w' K Q)
    (hdone : ∀ L a' w', (∀ j, j < ops.size → L j = true) → Frm a sl a' → J L a' w' → Q .normal a' w') : (Code.region id ops true).wp P Q a w := by
  have hsz : ∀ (listed : Array Bool), listed.size = ops.size → Region.ready .any ops listed = [] → ∀ j, j < ops.size → listed.getD j false = true := by
    intro listed hs h j
    induction j using Nat.strongRecOn with
    | ind j ih =>
      intro hj
      cases hb : listed.getD j false with
      | true => rfl
      | false =>
        exfalso
        have hj2 : j < listed.size := by omega
        have hbt : listed.getD j true = false := by simpa [hj2] using hb
        have hr : j ∈ Region.ready .any ops listed := mem_ready.2 ⟨hbt, ops[j], Array.getElem?_eq_getElem hj, fun e he hbd => by
          have := (hops j _ (Array.getElem?_eq_getElem hj)).2.1 e he hbd
          exact ih e.on this (by omega)⟩
        rw [h] at hr
        cases hr
  refine region_inv hm (fun listed a' w' => listed.size = ops.size ∧ Frm a sl a' ∧ J (inL listed) a' w') ⟨by simp, ⟨rfl, rfl, fun _ _ => rfl⟩, ?_⟩ (fun listed a' w' i hI hi => ?_) (fun listed a' w' hI hr => ?_)
  · have : inL (Array.replicate ops.size false) = fun _ => false := by
      funext j
      unfold inL
      by_cases h : j < ops.size <;> simp [h]
    rw [this]
    exact h0
  · obtain ⟨hs, hf, hj⟩ := hI
    obtain ⟨hb, o, ho, hall⟩ := mem_ready.1 hi
    obtain ⟨hg, _, hd⟩ := hops i o ho
    have hw : Region.wanted o (yielded ops a'.tmps) = true := by simp [Region.wanted, hg]
    have hin : i < ops.size := (Array.getElem?_eq_some_iff.1 ho).1
    unfold wpOp
    rw [ho]
    simp only [hw, if_true]
    have hbf : inL listed i = false := by
      unfold inL
      have : i < listed.size := by omega
      simpa [this] using hb
    refine .inl (hrun i o ho (inL listed) a' w' hf hj hbf (fun e he hbn => hall e he hbn) _ fun v w2 h2 => ⟨by simpa using hs, ?_, by rw [inL_set hs hin]; exact h2⟩)
    cases hdst : o.dst with
    | none => exact hf
    | some s => exact hf.put (hd s hdst) v
  · obtain ⟨hs, hf, hj⟩ := hI
    exact hdone _ a' w' (hsz listed hs hr) hf hj
end Go.Proofs.Ytengbkopihiiaaa
