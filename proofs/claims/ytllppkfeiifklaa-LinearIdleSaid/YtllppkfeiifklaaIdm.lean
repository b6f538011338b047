/-
  The row without the idle operations: plain data.
-/
import Derived.Test.YtllppkfeiifklaaIdl
import Derived.Test.YtllppkfeiifklaaMow
import Derived.Test.YtllppkfeiifklaaJ30
namespace Go.Proofs.Ytllppkfeiifklaa
open Go.RowKit Go.Lib
set_option linter.unusedVariables false
set_option maxRecDepth 20000
set_option linter.unusedSimpArgs false

theorem mark_is {l : List Ev} (h : Right l) {j : Nat} {e : Ev} (he : l[j]? = some e) (h2 : e.kind = 2) : stA l e.id = e.an ∧ 2 ≤ stN l e.id := by
  obtain ⟨n, hn⟩ := firstAt_isSome (kind := 2) (id := e.id) he h2 rfl
  obtain ⟨_, x, hx, hat, _⟩ := firstAt_get hn
  obtain ⟨kx, ix⟩ := isAt_iff.1 hat
  have hnj : n = j := by
    rcases Nat.lt_trichotomy n j with h1 | h1 | h1
    · have := h.rises.mono n j x e h1 hx he ix; omega
    · exact h1
    · have := h.rises.mono j n e x h1 he hx ix.symm; omega
  subst hnj
  rw [he] at hx
  injection hx with hx
  subst hx
  obtain ⟨p, y, hp, hy, iy, ky⟩ := h.rises.pred n e he (by omega)
  obtain ⟨u, hu⟩ := firstAt_isSome (kind := 1) (id := e.id) hy (by omega) iy
  refine ⟨answer_of hn he, ?_⟩
  unfold stN
  rw [hu, hn]
  cases firstAt 3 e.id l with
  | none => show (2 : Int) ≤ 2; decide
  | some _ => show (2 : Int) ≤ 3; decide
/-- Which operations stay. -/
def stays (l : List Ev) (id : Int) : Bool := !(decide (2 ≤ stN l id) && idleA (stA l id))
theorem stays_act {l : List Ev} (h : Right l) {j : Nat} {e : Ev} (he : l[j]? = some e) (hk : stays l e.id = false) : actB e = false := by
  unfold actB
  by_cases h2 : e.kind = 2
  · obtain ⟨h3, h4⟩ := mark_is h he h2
    unfold stays at hk
    rw [h3, decide_eq_true h4] at hk
    rw [decide_eq_true h2]
    simpa using hk
  · rw [decide_eq_false h2]; rfl
/-- The writes of what stays. -/
def keepW (k : Int → Bool) : List Ev → List (List Wr) → List (List Wr)
  | e :: t, p :: q => if k e.id = true then p :: keepW k t q else keepW k t q
  | _, _ => []
theorem keepW_length (k : Int → Bool) : ∀ (l : List Ev) (ps : List (List Wr)), ps.length = l.length → (keepW k l ps).length = (keepL k l).length
  | [], [], _ => rfl
  | [], _ :: _, h => by simp at h
  | _ :: _, [], h => by simp at h
  | e :: t, p :: q, h => by
    have ih := keepW_length k t q (by simpa using h)
    unfold keepW keepL
    rw [List.filter_cons]
    split
    · rw [List.length_cons, List.length_cons, ih]; rfl
    · rw [ih]; rfl
theorem keepL_yes {k : Int → Bool} {e : Ev} (h : k e.id = true) (t : List Ev) : keepL k (e :: t) = e :: keepL k t := by unfold keepL; exact List.filter_cons_of_pos (p := fun e : Ev => k e.id) h
theorem keepL_no {k : Int → Bool} {e : Ev} (h : ¬ k e.id = true) (t : List Ev) : keepL k (e :: t) = keepL k t := by unfold keepL; exact List.filter_cons_of_neg (p := fun e : Ev => k e.id) h
theorem keepW_yes {k : Int → Bool} {e : Ev} (h : k e.id = true) (t : List Ev) (p : List Wr) (q : List (List Wr)) : keepW k (e :: t) (p :: q) = p :: keepW k t q := by rw [keepW, if_pos h]
theorem keepW_no {k : Int → Bool} {e : Ev} (h : ¬ k e.id = true) (t : List Ev) (p : List Wr) (q : List (List Wr)) : keepW k (e :: t) (p :: q) = keepW k t q := by rw [keepW, if_neg h]
theorem keepW_get (k : Int → Bool) : ∀ (l : List Ev) (ps : List (List Wr)) (j : Nat) (e : Ev) (ws : List Wr), (keepL k l)[j]? = some e → (keepW k l ps)[j]? = some ws → ∃ i : Nat, l[i]? = some e ∧ ps[i]? = some ws
  | [], _, j, e, ws, h, _ => by simp [keepL] at h
  | _ :: _, [], j, e, ws, _, h => by simp [keepW] at h
  | a :: t, p :: q, j, e, ws, h, h2 => by
    unfold keepW at h2
    unfold keepL at h
    rw [List.filter_cons] at h
    split at h2
    · rename_i hk
      rw [if_pos hk] at h
      cases j with
      | zero =>
        simp at h h2
        subst h h2
        exact ⟨0, rfl, rfl⟩
      | succ j =>
        obtain ⟨i, h3, h4⟩ := keepW_get k t q j e ws (by rw [List.getElem?_cons_succ] at h; exact h) (by simpa using h2)
        exact ⟨i + 1, by simpa using h3, by simpa using h4⟩
    · rename_i hk
      rw [if_neg hk] at h
      obtain ⟨i, h3, h4⟩ := keepW_get k t q j e ws h h2
      exact ⟨i + 1, by simpa using h3, by simpa using h4⟩
def firstW (id : Int) : List Ev → List (List Wr) → List Wr
  | e :: t, p :: q => if isAt 1 id e = true then p else firstW id t q
  | _, _ => []
theorem stW_first (id : Int) : ∀ (l : List Ev) (ps : List (List Wr)), ps.length = l.length → stW l ps id = firstW id l ps
  | [], [], _ => rfl
  | [], _ :: _, h => by simp at h
  | _ :: _, [], h => by simp at h
  | e :: t, p :: q, h => by
    have ih := stW_first id t q (by simpa using h)
    unfold firstW
    unfold stW firstAt at ih ⊢
    rw [List.findIdx?_cons]
    cases h1 : isAt 1 id e with
    | true => rfl
    | false =>
      simp only [Bool.false_eq_true, if_false]
      rw [← ih]
      cases t.findIdx? (isAt 1 id) <;> rfl
theorem firstW_keep (k : Int → Bool) {id : Int} (hk : k id = true) : ∀ (l : List Ev) (ps : List (List Wr)), firstW id (keepL k l) (keepW k l ps) = firstW id l ps
  | [], _ => by simp [keepL, keepW, firstW]
  | e :: t, [] => by
    have : ∀ l : List Ev, firstW id l [] = [] := fun l => by cases l <;> rfl
    rw [show keepW k (e :: t) [] = [] from rfl, this, this]
  | e :: t, p :: q => by
    have ih := firstW_keep k hk t q
    by_cases hke : k e.id = true
    · rw [keepL_yes hke, keepW_yes hke]
      unfold firstW
      rw [ih]
    · have e3 : isAt 1 id e = false := by
        cases h : isAt 1 id e with
        | false => rfl
        | true => rw [(isAt_iff.1 h).2] at hke; exact absurd hk hke
      rw [keepL_no hke, keepW_no hke, ih]
      conv => rhs; rw [firstW]
      rw [e3]
      rfl
theorem stW_keep (k : Int → Bool) {id : Int} (hk : k id = true) {l : List Ev} {ps : List (List Wr)} (hl : ps.length = l.length) : stW (keepL k l) (keepW k l ps) id = stW l ps id := by
  rw [stW_first id _ _ (keepW_length k l ps hl), stW_first id _ _ hl, firstW_keep k hk]
section
variable {l : List Ev} {ps : List (List Wr)} (k : Int → Bool) (hl : ps.length = l.length)
include hl
theorem lnS_keep {e : Ev} (hk : k e.id = true) (M : List Pr) : lnS (keepL k l) (keepW k l ps) M e = lnS l ps M e := by
  unfold lnS
  rw [stO_keep k hk, stW_keep k hk hl]
theorem lnOk_keep {e : Ev} (hk : k e.id = true) (M : List Pr) : lnOk (keepL k l) (keepW k l ps) M e = lnOk l ps M e := by
  unfold lnOk
  rw [stO_keep k hk, stW_keep k hk hl]
theorem fold_keep : ∀ (t : List Ev) (M : List Pr), (∀ e ∈ t, k e.id = false → actB e = false) → (keepL k t).foldl (lnS (keepL k l) (keepW k l ps)) M = t.foldl (lnS l ps) M ∧ okF (keepL k l) (keepW k l ps) (keepL k t) M = okF l ps t M
  | [], M, _ => ⟨rfl, rfl⟩
  | e :: t, M, h => by
    have ih := fun M => fold_keep t M fun x hx => h x (List.mem_cons_of_mem _ hx)
    cases hk : k e.id with
    | true =>
      rw [keepL_yes hk, List.foldl_cons, List.foldl_cons, lnS_keep k hl hk]
      refine ⟨(ih _).1, ?_⟩
      show (lnOk _ _ M e && okF _ _ (keepL k t) (lnS _ _ M e)) = (lnOk l ps M e && okF l ps t (lnS l ps M e))
      rw [lnS_keep k hl hk, lnOk_keep k hl hk, (ih _).2]
    | false =>
      have ha := h e (List.mem_cons_self ..) hk
      have e2 : lnS l ps M e = M := by unfold lnS; rw [ha]; rfl
      rw [keepL_no (by rw [hk]; decide), List.foldl_cons, e2]
      refine ⟨(ih _).1, ?_⟩
      show _ = (lnOk l ps M e && okF l ps t (lnS l ps M e))
      rw [e2, lnOk_skip ha, (ih _).2]
      rfl
end
/-- The row without the idle operations. -/
def restL (l : List Ev) : List Ev := keepL (stays l) l
def restW (l : List Ev) (ps : List (List Wr)) : List (List Wr) := keepW (stays l) l ps
section
variable {l : List Ev} {ps : List (List Wr)} (hr : Right l) (hl : ps.length = l.length)
include hr hl
theorem rest_M (M : List Pr) : lnM (restL l) (restW l ps) M (restL l).length = lnM l ps M l.length := by
  unfold lnM
  rw [List.take_length, List.take_length]
  exact (fold_keep (stays l) hl l M fun e he h => by obtain ⟨j, hj⟩ := List.mem_iff_getElem?.1 he; exact stays_act hr hj h).1
theorem rest_U (M : List Pr) : Upto (restL l) (restW l ps) M (restL l).length ↔ Upto l ps M l.length := by
  rw [upto_okF, upto_okF]
  have := (fold_keep (stays l) hl l M fun e he h => by obtain ⟨j, hj⟩ := List.mem_iff_getElem?.1 he; exact stays_act hr hj h).2
  unfold restL restW
  rw [this]
theorem rest_code {M : List Pr} {a c a2 c2 : Int} (h : LinC l ps M a c) (k : LinC (restL l) (restW l ps) M a2 c2) : c2 = c := by
  have hr2 : Right (restL l) := hr.keep _
  have key : ∀ {l : List Ev} {ps : List (List Wr)} {a c : Int}, Right l → LinC l ps M a c → (c = 0 ∧ Upto l ps M l.length) ∨ (c = 32 ∧ ¬ Upto l ps M l.length) := fun {l ps a c} hr h => by
    rcases h with ⟨h1, h2⟩ | ⟨_, h⟩
    · exact absurd (h1.of_right hr).2 h2
    · rcases h with ⟨_, h, hu⟩ | ⟨n, e, _, h, he, _, hb⟩
      · exact .inl ⟨h, hu⟩
      · refine .inr ⟨h, fun hu => ?_⟩
        have := hu n e (List.getElem?_eq_some_iff.1 he).1 he
        rw [hb] at this
        cases this
  rcases key hr h with ⟨h1, h2⟩ | ⟨h1, h2⟩
  · rcases key hr2 k with ⟨k1, k2⟩ | ⟨k1, k2⟩
    · rw [h1, k1]
    · exact absurd ((rest_U hr hl M).2 h2) k2
  · rcases key hr2 k with ⟨k1, k2⟩ | ⟨k1, k2⟩
    · exact absurd ((rest_U hr hl M).1 k2) h2
    · rw [h1, k1]
end
theorem keepL_length (k : Int → Bool) (l : List Ev) : (keepL k l).length ≤ l.length := List.length_filter_le ..
theorem rest_few {l : List Ev} {ps : List (List Wr)} (h : FewE l ps) : FewE (restL l) (restW l ps) :=
  ⟨Nat.le_trans (keepL_length _ _) h.len, fun j e ws he hw => by
    obtain ⟨i, h1, h2⟩ := keepW_get _ l ps j e ws he hw
    exact h.op i e ws h1 h2⟩
theorem rest_rws {w : World} {l : List Ev} {ps : List (List Wr)} (h : Rws w l ps) : Rws w (restL l) (restW l ps) :=
  ⟨keepW_length _ l ps h.len, fun j e ws he hw => by
    obtain ⟨i, h1, h2⟩ := keepW_get _ l ps j e ws he hw
    exact h.get i e ws h1 h2⟩
theorem own_cap {w : World} {Z : Nat} {e size : Nat} {B : Option Addr} {n c : Nat} {xs : List Value} (h : w.ownsRow Z e size (.slice B n c) n xs) : n ≤ c := by
  rcases h.2 with ⟨_, h⟩ | ⟨g, cap, cur, hv, _, _, hc, _⟩
  · omega
  · injection hv with _ _ h3
    omega
/-- In memory. -/
theorem rest_in {w : World} {B B2 : Option Addr} {cap c2 Z : Nat} {l : List Ev} {ps : List (List Wr)} (h : InE w B cap l ps) (hr : w.ownsRow Z 40 13 (.slice B2 (restL l).length c2) (restL l).length (ecs (restL l))) : InE w B2 c2 (restL l) (restW l ps) :=
  ⟨row_of_own hr, rest_rws h.rws, fun e he => h.ids e (List.mem_filter.1 he).1, own_cap hr, rest_few h.few⟩
end Go.Proofs.Ytllppkfeiifklaa
