/-
  Plain facts on lists of bytes, more: where two lists part decides their order; which beginnings of a list are above another list. No condition.
-/
import Derived.Test.YtnlmeeijellfaaaMath
namespace Go.Proofs.Ytnlmeeijellfaaa.Math
open Go

/-- Is a below b? -/
def lt (a b : List UInt8) : Bool := decide (cmp a b = -1)

theorem cmp_at_lt : ∀ (k : Nat) (a b : List UInt8), k < a.length → k < b.length → (∀ i, i < k → a.getD i 0 = b.getD i 0) → a.getD k 0 < b.getD k 0 → cmp a b = -1
  | _, [], _ => by intro h; simp at h
  | _, _ :: _, [] => by intro _ h; simp at h
  | 0, x :: a, y :: b => by intro _ _ _ h; exact cmp_lt (by simpa using h) a b
  | k + 1, x :: a, y :: b => by
    intro h1 h2 hs h
    have e : x = y := by simpa using hs 0 (by omega)
    subst e
    rw [cmp_eq]
    exact cmp_at_lt k a b (by simpa using h1) (by simpa using h2) (fun i hi => by simpa using hs (i + 1) (by omega)) (by simpa using h)

theorem cmp_at_gt (k : Nat) (a b : List UInt8) (h1 : k < a.length) (h2 : k < b.length) (hs : ∀ i, i < k → a.getD i 0 = b.getD i 0) (h : b.getD k 0 < a.getD k 0) : cmp a b = 1 := by
  have := cmp_at_lt k b a h2 h1 (fun i hi => (hs i hi).symm) h
  rw [cmp_anti, this]
  rfl

theorem cmp_end_lt : ∀ (k : Nat) (a b : List UInt8), k = a.length → k < b.length → (∀ i, i < k → a.getD i 0 = b.getD i 0) → cmp a b = -1
  | 0, [], _ :: _ => by intro _ _ _; rfl
  | _, _, [] => by intro _ h; simp at h
  | 0, _ :: _, _ :: _ => by intro h; simp at h
  | k + 1, [], _ :: _ => by intro h; simp at h
  | k + 1, x :: a, y :: b => by
    intro h1 h2 hs
    have e : x = y := by simpa using hs 0 (by omega)
    subst e
    rw [cmp_eq]
    exact cmp_end_lt k a b (by simpa using h1) (by simpa using h2) (fun i hi => by simpa using hs (i + 1) (by omega))

theorem cmp_end_ge : ∀ (k : Nat) (a b : List UInt8), k ≤ a.length → k = b.length → (∀ i, i < k → a.getD i 0 = b.getD i 0) → 0 ≤ cmp a b
  | 0, [], [] => by intro _ _ _; decide
  | 0, _ :: _, [] => by intro _ _ _; simp [cmp, Lib.compareBytes]
  | 0, _, _ :: _ => by intro _ h; simp at h
  | k + 1, _, [] => by intro _ h; simp at h
  | k + 1, [], _ :: _ => by intro h; simp at h
  | k + 1, x :: a, y :: b => by
    intro h1 h2 hs
    have e : x = y := by simpa using hs 0 (by omega)
    subst e
    rw [cmp_eq]
    exact cmp_end_ge k a b (by simpa using h1) (by simpa using h2) (fun i hi => by simpa using hs (i + 1) (by omega))

/-- A beginning of b is above a just if b is, and it goes on behind what both have alike. -/
theorem lt_take : ∀ (a b : List UInt8) (n : Nat), cmp a (b.take n) = -1 ↔ (cmp a b = -1 ∧ com a b < n)
  | [], [], n => by simp [cmp, Lib.compareBytes]
  | [], _ :: _, 0 => by simp [cmp, Lib.compareBytes]
  | [], _ :: _, n + 1 => by simp [cmp, Lib.compareBytes, com]
  | _ :: _, [], n => by simp [cmp, Lib.compareBytes]
  | _ :: _, _ :: _, 0 => by simp [cmp, Lib.compareBytes]
  | x :: a, y :: b, n + 1 => by
    rw [List.take_succ_cons]
    unfold com
    rcases u8_tri x y with e | e | e
    · have hne : x ≠ y := by intro q; subst q; exact UInt8.lt_irrefl _ e
      rw [if_neg hne, cmp_lt e, cmp_lt e]; simp
    · subst e; rw [if_pos rfl, cmp_eq, cmp_eq, lt_take a b n]; simp
    · rw [cmp_gt e, cmp_gt e]; simp

theorem lt_true {a b : List UInt8} (h : cmp a b = -1) : lt a b = true := by simp [lt, h]
theorem lt_false {a b : List UInt8} (h : cmp a b ≠ -1) : lt a b = false := by simp [lt, h]
end Go.Proofs.Ytnlmeeijellfaaa.Math
