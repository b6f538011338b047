/-
  The rows of LinearKnown, and what they come to.
-/
import Derived.Test.YtllppkfeiifklaaJ39
namespace Go.Proofs.Ytllppkfeiifklaa
open Go.RowKit Go.Lib
set_option linter.unusedVariables false
set_option maxRecDepth 20000
set_option linter.unusedSimpArgs false

def aOne : Ans := ⟨0, true, ⟨#[]⟩, ⟨#[49]⟩⟩
def aFull : Ans := ⟨5, false, ⟨#[]⟩, ⟨#[]⟩⟩
/-- A Put and a Get that overlap; p and g: what they are answered. -/
def kL (p g : Ans) : List Ev := [⟨1, 1, smP, ans00⟩, ⟨1, 2, smG, ans00⟩, ⟨2, 1, op00, p⟩, ⟨2, 2, op00, g⟩, ⟨3, 1, op00, p⟩, ⟨3, 2, op00, g⟩]
/-- The Get begins behind the Put's end. -/
def bL : List Ev := [⟨1, 1, smP, ans00⟩, ⟨2, 1, op00, ans00⟩, ⟨3, 1, op00, ans00⟩, ⟨1, 2, smG, ans00⟩, ⟨2, 2, op00, ans00⟩, ⟨3, 2, op00, ans00⟩]
/-- A row of six events without writes. -/
theorem six_in {l : List Ev} (hl : l.length = 6) (h : ∀ e ∈ l, In64 e.id ∧ e.op.A = none ∧ e.op.len = 0 ∧ (e.op.k.size ≤ 500 ∧ e.op.v.size ≤ 500 ∧ e.op.o.size ≤ 500) ∧ Fit e.an.k ∧ Fit e.an.v) {w : World} {g : Nat} (ha : At w g (.cells (ecs l).toArray 40 (0, 0))) : InE w (some ⟨g, 0, none⟩) 6 l smW := by
  have hws : ∀ (j : Nat) (e : Ev) (ws : List Wr), l[j]? = some e → smW[j]? = some ws → ws = [] := fun j e ws he hw => by
    have hj : j < 6 := by rw [← hl]; exact (List.getElem?_eq_some_iff.1 he).1
    have : j = 0 ∨ j = 1 ∨ j = 2 ∨ j = 3 ∨ j = 4 ∨ j = 5 := by omega
    rcases this with rfl | rfl | rfl | rfl | rfl | rfl <;> (injection hw with hw; exact hw.symm)
  refine ⟨fun j u hu => ⟨g, 0, rfl, ha.lt, by rw [ha.cell, Nat.zero_add]; simpa using hu⟩, ⟨by rw [hl]; rfl, fun j e ws he hw => ?_⟩, fun e he => (h e he).1, by omega, ⟨by omega, fun j e ws he hw => ?_⟩⟩
  · obtain rfl := hws j e ws he hw
    obtain ⟨h1, h2, h3, ⟨h4, h5, h6⟩, h7, h8⟩ := h e (List.mem_of_getElem? he)
    exact ⟨Row.nil _ _, ⟨h1, fit500 h4, fit500 h5, fit500 h6, h7, h8, by simp, by rw [h3]; rfl, by omega⟩⟩
  · obtain rfl := hws j e ws he hw
    obtain ⟨h1, h2, h3, ⟨h4, h5, h6⟩, h7, h8⟩ := h e (List.mem_of_getElem? he)
    exact ⟨h4, h5, h6, by simp, by simp⟩
theorem sz_p : smP.k.size ≤ 500 ∧ smP.v.size ≤ 500 ∧ smP.o.size ≤ 500 := ⟨by decide, by decide, by decide⟩
theorem sz_g : smG.k.size ≤ 500 ∧ smG.v.size ≤ 500 ∧ smG.o.size ≤ 500 := ⟨by decide, by decide, by decide⟩
theorem sz_o : op00.k.size ≤ 500 ∧ op00.v.size ≤ 500 ∧ op00.o.size ≤ 500 := ⟨by decide, by decide, by decide⟩
theorem k_in {p g : Ans} (hp : Fit p.k ∧ Fit p.v) (hg : Fit g.k ∧ Fit g.v) {w : World} {b : Nat} (ha : At w b (.cells (ecs (kL p g)).toArray 40 (0, 0))) : InE w (some ⟨b, 0, none⟩) 6 (kL p g) smW := by
  refine six_in rfl (fun e he => ?_) ha
  simp [kL] at he
  rcases he with rfl | rfl | rfl | rfl | rfl | rfl
  · exact ⟨in_1, rfl, rfl, sz_p, fit_00⟩
  · exact ⟨in_2, rfl, rfl, sz_g, fit_00⟩
  · exact ⟨in_1, rfl, rfl, sz_o, hp⟩
  · exact ⟨in_2, rfl, rfl, sz_o, hg⟩
  · exact ⟨in_1, rfl, rfl, sz_o, hp⟩
  · exact ⟨in_2, rfl, rfl, sz_o, hg⟩
theorem b_in {w : World} {b : Nat} (ha : At w b (.cells (ecs bL).toArray 40 (0, 0))) : InE w (some ⟨b, 0, none⟩) 6 bL smW := by
  refine six_in rfl (fun e he => ?_) ha
  simp [bL] at he
  rcases he with rfl | rfl | rfl | rfl | rfl | rfl
  · exact ⟨in_1, rfl, rfl, sz_p, fit_00⟩
  · exact ⟨in_1, rfl, rfl, sz_o, fit_00⟩
  · exact ⟨in_1, rfl, rfl, sz_o, fit_00⟩
  · exact ⟨in_2, rfl, rfl, sz_g, fit_00⟩
  · exact ⟨in_2, rfl, rfl, sz_o, fit_00⟩
  · exact ⟨in_2, rfl, rfl, sz_o, fit_00⟩
theorem k_right (p g : Ans) : Right (kL p g) := by
  refine right_of (kL p g) [] .nil fun n e he => ?_
  have hn : n < 6 := (List.getElem?_eq_some_iff.1 he).1
  have : n = 0 ∨ n = 1 ∨ n = 2 ∨ n = 3 ∨ n = 4 ∨ n = 5 := by omega
  rcases this with rfl | rfl | rfl | rfl | rfl | rfl <;> (injection he with he; subst he)
  · rfl
  · rfl
  · unfold fits
    rw [show kn ([] ++ List.take 2 (kL p g)) (Ev.id ⟨2, 1, op00, p⟩) = ⟨1, ans00⟩ by rfl]
    simp [fitsK, zero00]
  · unfold fits
    rw [show kn ([] ++ List.take 3 (kL p g)) (Ev.id ⟨2, 2, op00, g⟩) = ⟨1, ans00⟩ by rfl]
    simp [fitsK, zero00]
  · unfold fits
    rw [show kn ([] ++ List.take 4 (kL p g)) (Ev.id ⟨3, 1, op00, p⟩) = ⟨2, p⟩ by rfl]
    simp [fitsK, zero00]
  · unfold fits
    rw [show kn ([] ++ List.take 5 (kL p g)) (Ev.id ⟨3, 2, op00, g⟩) = ⟨2, g⟩ by rfl]
    simp [fitsK, zero00]
theorem b_right : Right bL := by
  refine right_of bL [] .nil fun n e he => ?_
  have hn : n < 6 := (List.getElem?_eq_some_iff.1 he).1
  have : n = 0 ∨ n = 1 ∨ n = 2 ∨ n = 3 ∨ n = 4 ∨ n = 5 := by omega
  rcases this with rfl | rfl | rfl | rfl | rfl | rfl <;> (injection he with he; subst he)
  · rfl
  · unfold fits
    rw [show kn ([] ++ List.take 1 bL) (Ev.id ⟨2, 1, op00, ans00⟩) = ⟨1, ans00⟩ by rfl]
    simp [fitsK, zero00]
  · unfold fits
    rw [show kn ([] ++ List.take 2 bL) (Ev.id ⟨3, 1, op00, ans00⟩) = ⟨2, ans00⟩ by rfl]
    simp [fitsK, zero00]
  · rfl
  · unfold fits
    rw [show kn ([] ++ List.take 4 bL) (Ev.id ⟨2, 2, op00, ans00⟩) = ⟨1, ans00⟩ by rfl]
    simp [fitsK, zero00]
  · unfold fits
    rw [show kn ([] ++ List.take 5 bL) (Ev.id ⟨3, 2, op00, ans00⟩) = ⟨2, ans00⟩ by rfl]
    simp [fitsK, zero00]
theorem k_lin1 : Lin (kL ans00 aOne) smW (news []) (-1) 0 := by
  refine .inl ⟨rfl, rfl, fun j e hj he => ?_⟩
  have hj : j < 6 := hj
  have : j = 0 ∨ j = 1 ∨ j = 2 ∨ j = 3 ∨ j = 4 ∨ j = 5 := by omega
  rcases this with rfl | rfl | rfl | rfl | rfl | rfl <;> (injection he with he; subst he; rfl)
theorem k_lin2 : Lin (kL ans00 ans00) smW (news []) 3 32 := by
  refine .inr ⟨3, ⟨2, 2, op00, ans00⟩, rfl, rfl, rfl, fun j e hj he => ?_, by rfl⟩
  have : j = 0 ∨ j = 1 ∨ j = 2 := by omega
  rcases this with rfl | rfl | rfl <;> (injection he with he; subst he; rfl)
theorem k_lin3 : Lin bL smW (news []) 4 32 := by
  refine .inr ⟨4, ⟨2, 2, op00, ans00⟩, rfl, rfl, rfl, fun j e hj he => ?_, by rfl⟩
  have : j = 0 ∨ j = 1 ∨ j = 2 ∨ j = 3 := by omega
  rcases this with rfl | rfl | rfl | rfl <;> (injection he with he; subst he; rfl)
theorem k_lin4 : Lin (kL aFull ans00) smW (news []) (-1) 0 := by
  refine .inl ⟨rfl, rfl, fun j e hj he => ?_⟩
  have hj : j < 6 := hj
  have : j = 0 ∨ j = 1 ∨ j = 2 ∨ j = 3 ∨ j = 4 ∨ j = 5 := by omega
  rcases this with rfl | rfl | rfl | rfl | rfl | rfl <;> (injection he with he; subst he; rfl)
theorem k_aft1 : lnM (kL ans00 aOne) smW (news []) (kL ans00 aOne).length = [⟨⟨#[97]⟩, ⟨#[49]⟩⟩] := by rfl
theorem k_aft2 : lnM (kL aFull ans00) smW (news []) (kL aFull ans00).length = [] := by rfl
theorem k_wit : (wit bL).length = 2 := by rfl
theorem k_some : SomeP (kL ans00 ans00) smW [] := sm_some false
theorem b_surv : surv bL (begs bL) = [1, 2] := by rfl
theorem b_near : nearL bL smW (news []) (namL bL smW [1, 2]) [1, 2] = [] := by rfl
theorem b_some : ¬ SomeP bL smW [] := by
  rintro ⟨_, _, h⟩
  rw [b_surv, b_near] at h
  cases h with
  | done h => exact absurd h (by decide)
  | @step _ _ k id h1 h2 h3 h4 h5 =>
    have hk : k < 2 := (List.getElem?_eq_some_iff.1 h1).1
    have : k = 0 ∨ k = 1 := by omega
    rcases this with rfl | rfl
    · injection h1 with h1
      subst h1
      cases h5 with
      | done h => exact absurd h (by decide)
      | @step _ _ k id h1 h2 h3 h4 h5 =>
        have hk : k < 2 := (List.getElem?_eq_some_iff.1 h1).1
        have : k = 0 ∨ k = 1 := by omega
        rcases this with rfl | rfl
        · exact absurd h2 (by decide)
        · injection h1 with h1
          subst h1
          have := h4 rfl
          exact absurd this (by decide)
    · exact absurd h3 (by decide)
end Go.Proofs.Ytllppkfeiifklaa
