/-
  What Get tells behind an operation: plain facts.
-/
import Derived.Test.YtjjmooegpoeomaaApm
namespace Go.Proofs.Ytjjmooegpoeomaa
open Go.RowKit Go.Lib
set_option linter.unusedVariables false
set_option linter.unusedSimpArgs false

def getA (M : List Pr) (key : ByteArray) : Ans := doA M 1 key ⟨#[]⟩ ⟨#[]⟩ false false []
def nm0 (kind : Int) (k key : ByteArray) : Bool := decide (k = key) && (decide (kind = 2) || decide (kind = 3) || decide (kind = 4))
def nmB (kind : Int) (k : ByteArray) (ws : List Wr) (key : ByteArray) : Bool := nm0 kind k key || (decide (kind = 6) && ws.any (fun x => decide (x.k = key)))
theorem nm_step {kind : Int} {k : ByteArray} {ws : List Wr} {key : ByteArray} {j : Nat} {y : Wr} (hj : ws[j]? = some y) :
    (nm0 kind k key || (decide (kind = 6) && (ws.take (j + 1)).any (fun x => decide (x.k = key)))) = ((nm0 kind k key || (decide (kind = 6) && (ws.take j).any (fun x => decide (x.k = key)))) || (decide (kind = 6) && decide (y.k = key))) := by
  rw [List.take_add_one, List.any_append, hj]
  cases nm0 kind k key <;> cases decide (kind = 6) <;> simp
theorem doM_get (M : List Pr) (key v o : ByteArray) (had aft : Bool) (ws : List Wr) : doM M 1 key v o had aft ws = M := by
  unfold doM
  split <;> simp
theorem getA_eq {M : List Pr} {key : ByteArray} (h : bigK key = false) : getA M key = gans (getL M key) := by
  unfold getA doA refO
  simp [h]
theorem getA_big {M : List Pr} {key : ByteArray} (h : bigK key = true) : getA M key = ⟨7, false, ⟨#[]⟩, ⟨#[]⟩⟩ := by
  unfold getA doA refO
  simp [h]
theorem doA_code (M : List Pr) (kind : Int) (k v o : ByteArray) (had aft : Bool) (ws : List Wr) : (doA M kind k v o had aft ws).code = refO kind k v o had ws := by
  unfold doA
  split
  · rename_i h
    rw [h]
    split
    · rfl
    · split
      · rfl
      · split
        · cases nexts M k aft <;> rfl
        · rfl
  · rfl
theorem getA_no {M : List Pr} {kind : Int} {k v o : ByteArray} {had aft : Bool} {ws : List Wr} {key : ByteArray} (h : nmB kind k ws key = false ∨ refO kind k v o had ws ≠ 0) : getA (doM M kind k v o had aft ws) key = getA M key := by
  have hg : getL (doM M kind k v o had aft ws) key = getL M key := by
    rcases h with h | h
    · unfold nmB nm0 at h
      unfold doM
      split
      · split
        · rename_i h2
          rw [get_put, if_neg (fun e => by subst h2 e; simp at h)]
        · split
          · rename_i h3
            rw [get_del, if_neg (fun e => by subst h3 e; simp at h)]
          · split
            · rename_i h4
              split
              · rw [get_put, if_neg (fun e => by subst h4 e; simp at h)]
              · rfl
            · split
              · rename_i h6
                subst h6
                refine get_wrL ws M key fun x hx e => ?_
                have : ws.any (fun x => decide (x.k = key)) = true := List.any_eq_true.2 ⟨x, hx, decide_eq_true e⟩
                rw [this] at h
                simp at h
              · rfl
      · rfl
    · unfold doM
      rw [if_neg h]
  cases hb : bigK key with
  | true => rw [getA_big hb, getA_big hb]
  | false => rw [getA_eq hb, getA_eq hb, hg]
theorem big_of2 {k v o : ByteArray} {had : Bool} {ws : List Wr} (h : refO 2 k v o had ws = 0) : bigK k = false := by
  unfold refO at h
  cases hb : bigK k with
  | false => rfl
  | true => rw [hb] at h; simp at h
theorem big_of3 {k v o : ByteArray} {had : Bool} {ws : List Wr} (h : refO 3 k v o had ws = 0) : bigK k = false := by
  unfold refO at h
  cases hb : bigK k with
  | false => rfl
  | true => rw [hb] at h; simp at h
theorem big_of4 {k v o : ByteArray} {had : Bool} {ws : List Wr} (h : refO 4 k v o had ws = 0) : bigK k = false := by
  unfold refO at h
  cases hb : bigK k with
  | false => rfl
  | true => rw [hb] at h; simp at h
theorem big_of6 {k v o key : ByteArray} {had : Bool} {ws : List Wr} (h : refO 6 k v o had ws = 0) (hn : ws.any (fun x => decide (x.k = key)) = true) : bigK key = false := by
  obtain ⟨x, hx, e⟩ := List.any_eq_true.1 hn
  have e := of_decide_eq_true e
  subst e
  have := ref_each h hx
  cases hg : x.gone with
  | true => rw [hg] at this; exact big_of3 this
  | false => rw [hg] at this; exact big_of2 this
theorem las2 {M : List Pr} {key v o : ByteArray} {had aft : Bool} {ws : List Wr} (h : refO 2 key v o had ws = 0) : getA (doM M 2 key v o had aft ws) key = ⟨0, true, ⟨#[]⟩, v⟩ ∧ doA M 2 key v o had aft ws = getA M key := by
  have hb := big_of2 h
  rw [getA_eq hb, getA_eq hb]
  constructor
  · unfold doM
    rw [if_pos h, if_pos rfl, get_put, if_pos rfl]
    rfl
  · unfold doA
    rw [if_pos h, if_pos (by decide)]
theorem las3 {M : List Pr} {key v o : ByteArray} {had aft : Bool} {ws : List Wr} (h : refO 3 key v o had ws = 0) : getA (doM M 3 key v o had aft ws) key = ⟨0, false, ⟨#[]⟩, ⟨#[]⟩⟩ ∧ doA M 3 key v o had aft ws = getA M key := by
  have hb := big_of3 h
  rw [getA_eq hb, getA_eq hb]
  constructor
  · unfold doM
    rw [if_pos h, if_neg (by decide), if_pos rfl, get_del, if_pos rfl]
    rfl
  · unfold doA
    rw [if_pos h, if_pos (by decide)]
theorem las4 {M : List Pr} {key v o : ByteArray} {had aft : Bool} {ws : List Wr} (h : refO 4 key v o had ws = 0) : getA M key = gans (getL M key) ∧ doA M 4 key v o had aft ws = ⟨0, swD M key o had, ⟨#[]⟩, (getL M key).getD ⟨#[]⟩⟩ ∧
    getA (doM M 4 key v o had aft ws) key = if swD M key o had = true then ⟨0, true, ⟨#[]⟩, v⟩ else gans (getL M key) := by
  have hb := big_of4 h
  rw [getA_eq hb, getA_eq hb]
  refine ⟨rfl, ?_, ?_⟩
  · unfold doA
    rw [if_pos h, if_neg (by decide), if_pos rfl]
  · unfold doM
    rw [if_pos h, if_neg (by decide), if_neg (by decide), if_pos rfl]
    split
    · rw [get_put, if_pos rfl]; rfl
    · rfl
theorem las6 {M : List Pr} {k v o key : ByteArray} {had aft : Bool} {ws : List Wr} (h : refO 6 k v o had ws = 0) {j : Nat} {x : Wr} (hj : ws[j]? = some x) (hx : x.k = key) (hl : ∀ y ∈ ws.drop (j + 1), y.k ≠ key) :
    (getA (doM M 6 k v o had aft ws) key).found = !x.gone ∧ (x.gone = false → (getA (doM M 6 k v o had aft ws) key).v = x.v) := by
  have hb := big_of6 (key := key) h (List.any_eq_true.2 ⟨x, List.mem_of_getElem? hj, decide_eq_true hx⟩)
  rw [getA_eq hb, doM_batch, if_pos h]
  have e : ws = ws.take j ++ x :: ws.drop (j + 1) := by
    have hlt := (List.getElem?_eq_some_iff.1 hj).1
    have := (List.getElem?_eq_some_iff.1 hj).2
    rw [← this, ← List.drop_eq_getElem_cons hlt, List.take_append_drop]
  have e2 : getL (wrL M ws) key = if x.gone then none else some x.v := by
    conv => lhs; rw [e]
    have : wrL M (ws.take j ++ x :: ws.drop (j + 1)) = wrL (wr1 (wrL M (ws.take j)) x) (ws.drop (j + 1)) := by unfold wrL; rw [List.foldl_append]; rfl
    rw [this, get_wrL _ _ _ hl, get_wr1, if_pos hx.symm]
  rw [e2]
  cases x.gone <;> simp [gans]
end Go.Proofs.Ytjjmooegpoeomaa
