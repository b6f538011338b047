/-
  A region that draws its order, by an invariant over what has come up: each operation that may come up keeps it; where all have come up it gives what is wanted.
-/
import Derived.Test.YthopiamiipmobaaMem
import Derived.Orders
namespace Go.Proofs.Ythopiamiipmobaa
open Go.RowKit
set_option linter.unusedVariables false

def open_ (listed : Array Bool) : Nat := listed.toList.count false
theorem open_zero {listed : Array Bool} (h : open_ listed = 0) (j : Nat) : listed.getD j true = true := by
  unfold open_ at h
  rw [List.count_eq_zero] at h
  cases hj : listed[j]? with
  | none => simp [hj]
  | some b =>
    cases b with
    | true => simp [hj]
    | false => exact absurd (by rw [← Array.getElem?_toList] at hj; exact List.mem_of_getElem? hj) h
theorem open_set {listed : Array Bool} {i : Nat} (h : listed.getD i true = false) : open_ (listed.setIfInBounds i true) + 1 = open_ listed := by
  have hi : i < listed.size := by
    rcases Nat.lt_or_ge i listed.size with h1 | h1
    · exact h1
    · simp [Array.getElem?_eq_none h1] at h
  have hv : listed.toList[i]'(by simpa using hi) = false := by simpa [hi] using h
  unfold open_
  rw [Array.toList_setIfInBounds, List.count_set (by simpa using hi), hv]
  have hp : 0 < listed.toList.count false := List.count_pos_iff.2 (by rw [← hv]; exact List.getElem_mem _)
  rw [if_pos (by rfl), if_neg (by simp)]
  omega
theorem any_inv {P : Program} {md : Region.Mode} {ops : Array Oper} {Q : Exit → Act → World → Prop} (I : Array Bool → Act → World → Prop)
    (hstep : ∀ listed a w i, I listed a w → i ∈ Region.ready md ops listed → wpOp P ops Q i (I (listed.setIfInBounds i true)) a w)
    (hdone : ∀ listed a w, I listed a w → Region.ready md ops listed = [] → Q .normal a w) :
    ∀ (fuel : Nat) (listed : Array Bool) (a : Act) (w : World), open_ listed ≤ fuel → I listed a w → wpAny P md ops Q fuel listed a w
  | 0, listed, a, w, hf, hI => by
    have h0 : Region.ready md ops listed = [] := by
      apply List.eq_nil_iff_forall_not_mem.2
      intro j hj
      have h1 := (mem_ready.1 hj).1
      rw [open_zero (by omega) j] at h1
      cases h1
    exact ⟨h0, hdone _ _ _ hI h0⟩
  | fuel + 1, listed, a, w, hf, hI => by
    refine ⟨fun h0 => hdone _ _ _ hI h0, fun i hi => ?_⟩
    refine wpOp_mono (fun a' w' h' => any_inv I hstep hdone fuel _ a' w' ?_ h') (hstep _ _ _ _ hI hi)
    have := open_set (mem_ready.1 hi).1
    omega
/-- The beginning of such a region. -/
theorem region_inv {P : Program} {ops : Array Oper} {Q : Exit → Act → World → Prop} {id : Nat} {a : Act} {w : World} (hm : P.follows .mixedOrders = true) (I : Array Bool → Act → World → Prop)
    (h0 : I (Array.replicate ops.size false) a w.drew)
    (hstep : ∀ listed a w i, I listed a w → i ∈ Region.ready .any ops listed → wpOp P ops Q i (I (listed.setIfInBounds i true)) a w)
    (hdone : ∀ listed a w, I listed a w → Region.ready .any ops listed = [] → Q .normal a w) : (Code.region id ops true).wp P Q a w := by
  refine wp_region_any hm (any_inv I hstep hdone _ _ _ _ ?_ h0)
  unfold open_
  simp
end Go.Proofs.Ythopiamiipmobaa
