/-
  Plain facts on lists of bytes: the order that strings.Compare tells, and how many bytes two lists have alike from the beginning on. No condition.
-/
import Derived.Lib.Bytealg
namespace Go.Proofs.Ytengbkopihiiaaa.Math
open Go

abbrev cmp (a b : List UInt8) : Int := Lib.compareBytes a b

/-- How many bytes two lists have alike from the beginning on. -/
def com : List UInt8 → List UInt8 → Nat
  | x :: a, y :: b => if x = y then com a b + 1 else 0
  | _, _ => 0

theorem com_le : ∀ a b : List UInt8, com a b ≤ a.length ∧ com a b ≤ b.length
  | [], _ => by simp [com]
  | _ :: _, [] => by simp [com]
  | x :: a, y :: b => by
    have ih := com_le a b
    unfold com
    by_cases h : x = y
    · rw [if_pos h]; simp; omega
    · rw [if_neg h]; simp

theorem com_comm : ∀ a b : List UInt8, com a b = com b a
  | [], [] => rfl
  | [], _ :: _ => by simp [com]
  | _ :: _, [] => by simp [com]
  | x :: a, y :: b => by
    have ih := com_comm a b
    unfold com
    by_cases h : x = y
    · rw [if_pos h, if_pos h.symm, ih]
    · rw [if_neg h, if_neg (fun e => h e.symm)]

theorem com_self : ∀ a : List UInt8, com a a = a.length
  | [] => rfl
  | x :: a => by unfold com; rw [if_pos rfl, com_self a]; rfl

theorem com_take : ∀ a b : List UInt8, a.take (com a b) = b.take (com a b)
  | [], b => by simp [com]
  | _ :: _, [] => by simp [com]
  | x :: a, y :: b => by
    have ih := com_take a b
    unfold com
    by_cases h : x = y
    · rw [if_pos h]; simp [ih, h]
    · rw [if_neg h]; simp

theorem com_ne : ∀ a b : List UInt8, com a b < a.length → com a b < b.length → a.getD (com a b) 0 ≠ b.getD (com a b) 0
  | [], _ => by simp
  | _ :: _, [] => by simp
  | x :: a, y :: b => by
    have ih := com_ne a b
    unfold com
    by_cases h : x = y
    · rw [if_pos h]; simp only [List.length_cons, List.getD_cons_succ]; intro h1 h2; exact ih (by omega) (by omega)
    · rw [if_neg h]; simp only [List.getD_cons_zero]; intro _ _; exact h

/-- What ends a search for the first place where two lists differ. -/
theorem com_of : ∀ (k : Nat) (a b : List UInt8), k ≤ a.length → k ≤ b.length → (∀ i, i < k → a.getD i 0 = b.getD i 0) → (k = a.length ∨ k = b.length ∨ a.getD k 0 ≠ b.getD k 0) → com a b = k
  | 0, [], _, _, _, _, _ => by simp [com]
  | 0, _ :: _, [], _, _, _, _ => by simp [com]
  | 0, x :: a, y :: b, _, _, _, h => by
    unfold com
    rcases h with h | h | h
    · simp at h
    · simp at h
    · rw [if_neg (by simpa using h)]
  | k + 1, [], _, h, _, _, _ => by simp at h
  | k + 1, _ :: _, [], _, h, _, _ => by simp at h
  | k + 1, x :: a, y :: b, ha, hb, hs, h => by
    have h0 : x = y := by simpa using hs 0 (by omega)
    unfold com
    rw [if_pos h0, com_of k a b (by simpa using ha) (by simpa using hb) (fun i hi => by simpa using hs (i + 1) (by omega)) (by simpa using h)]

theorem com_tri : ∀ a b c : List UInt8, min (com a b) (com b c) ≤ com a c
  | [], _, _ => by simp [com]
  | _ :: _, [], _ => by simp [com]
  | _ :: _, _ :: _, [] => by simp [com]
  | x :: a, y :: b, z :: c => by
    have ih := com_tri a b c
    unfold com
    by_cases h1 : x = y
    · by_cases h2 : y = z
      · rw [if_pos h1, if_pos h2, if_pos (h1.trans h2)]; omega
      · rw [if_pos h1, if_neg h2]; omega
    · rw [if_neg h1]; omega

theorem u8_tri (x y : UInt8) : x < y ∨ x = y ∨ y < x := by
  rcases Nat.lt_trichotomy x.toNat y.toNat with h | h | h
  · exact .inl (UInt8.lt_iff_toNat_lt.2 h)
  · exact .inr (.inl (UInt8.toNat_inj.1 h))
  · exact .inr (.inr (UInt8.lt_iff_toNat_lt.2 h))

theorem cmp_cons (x y : UInt8) (a b : List UInt8) : cmp (x :: a) (y :: b) = if x < y then -1 else if y < x then 1 else cmp a b := rfl
theorem cmp_lt {x y : UInt8} (h : x < y) (a b : List UInt8) : cmp (x :: a) (y :: b) = -1 := by rw [cmp_cons, if_pos h]
theorem cmp_gt {x y : UInt8} (h : y < x) (a b : List UInt8) : cmp (x :: a) (y :: b) = 1 := by
  rw [cmp_cons, if_neg (UInt8.lt_asymm h), if_pos h]
theorem cmp_eq (x : UInt8) (a b : List UInt8) : cmp (x :: a) (x :: b) = cmp a b := by
  rw [cmp_cons, if_neg (UInt8.lt_irrefl x), if_neg (UInt8.lt_irrefl x)]

/-- Two lists stand one below the other, alike, or the other way round. -/
theorem cmp_range : ∀ a b : List UInt8, cmp a b = -1 ∨ cmp a b = 0 ∨ cmp a b = 1
  | [], [] => .inr (.inl rfl)
  | [], _ :: _ => .inl rfl
  | _ :: _, [] => .inr (.inr rfl)
  | x :: a, y :: b => by
    rcases u8_tri x y with h | h | h
    · exact .inl (cmp_lt h a b)
    · subst h; rw [cmp_eq]; exact cmp_range a b
    · exact .inr (.inr (cmp_gt h a b))

theorem cmp_anti : ∀ a b : List UInt8, cmp a b = -cmp b a
  | [], [] => rfl
  | [], _ :: _ => rfl
  | _ :: _, [] => rfl
  | x :: a, y :: b => by
    rcases u8_tri x y with h | h | h
    · rw [cmp_lt h, cmp_gt h]
    · subst h; rw [cmp_eq, cmp_eq]; exact cmp_anti a b
    · rw [cmp_gt h, cmp_lt h]; rfl

theorem cmp_zero : ∀ a b : List UInt8, cmp a b = 0 ↔ a = b
  | [], [] => by simp [cmp, Lib.compareBytes]
  | [], _ :: _ => by simp [cmp, Lib.compareBytes]
  | _ :: _, [] => by simp [cmp, Lib.compareBytes]
  | x :: a, y :: b => by
    rcases u8_tri x y with h | h | h
    · rw [cmp_lt h]; simp; intro e; exact absurd (e ▸ h) (UInt8.lt_irrefl _)
    · subst h; rw [cmp_eq, cmp_zero a b]; simp
    · rw [cmp_gt h]; simp; intro e; exact absurd (e ▸ h) (UInt8.lt_irrefl _)

theorem cmp_self (a : List UInt8) : cmp a a = 0 := (cmp_zero a a).2 rfl

theorem cmp_trans : ∀ a b c : List UInt8, cmp a b ≤ 0 → cmp b c ≤ 0 → cmp a c = min (cmp a b) (cmp b c)
  | [], [], c => by intro _ h; rw [cmp_self]; omega
  | [], _ :: _, [] => by intro _ h; simp [cmp, Lib.compareBytes] at h
  | [], y :: b, z :: c => by
    intro _ h
    have e1 : cmp [] (y :: b) = -1 := rfl
    have e2 : cmp [] (z :: c) = -1 := rfl
    rw [e1, e2]
    rcases cmp_range (y :: b) (z :: c) with g | g | g <;> omega
  | _ :: _, [], _ => by intro h; simp [cmp, Lib.compareBytes] at h
  | x :: a, y :: b, [] => by intro _ h; simp [cmp, Lib.compareBytes] at h
  | x :: a, y :: b, z :: c => by
    intro h1 h2
    have ih := cmp_trans a b c
    rcases u8_tri x y with h | h | h
    · rcases u8_tri y z with g | g | g
      · rw [cmp_lt (UInt8.lt_trans h g), cmp_lt h, cmp_lt g]; rfl
      · subst g; rw [cmp_eq] at h2 ⊢; rw [cmp_lt h, cmp_lt h]; rcases cmp_range b c with e | e | e <;> omega
      · rw [cmp_gt g] at h2; omega
    · subst h
      rcases u8_tri x z with g | g | g
      · rw [cmp_eq] at h1 ⊢; rw [cmp_lt g, cmp_lt g]; rcases cmp_range a b with e | e | e <;> omega
      · subst g; rw [cmp_eq] at h1 h2; rw [cmp_eq, cmp_eq, cmp_eq]; exact ih h1 h2
      · rw [cmp_gt g] at h2; omega
    · rw [cmp_gt h] at h1; omega

/-- A list is below what goes on behind it. -/
theorem cmp_snoc (a : List UInt8) : cmp a (a ++ [0]) = -1 := by
  induction a with
  | nil => rfl
  | cons x a ih => rw [List.cons_append, cmp_eq]; exact ih

theorem u8_not_lt_zero (x : UInt8) : ¬ x < 0 := by intro h; have := UInt8.lt_iff_toNat_lt.1 h; simp at this

/-- Above a list is just what is not below the list with a zero behind it. -/
theorem cmp_snoc_iff : ∀ a c : List UInt8, cmp c a = 1 ↔ 0 ≤ cmp c (a ++ [0])
  | [], [] => by decide
  | [], x :: c => by
    have hx := u8_not_lt_zero x
    simp only [List.nil_append]
    rcases u8_tri x 0 with h | h | h
    · exact absurd h hx
    · subst h; rw [cmp_eq]; cases c <;> simp [cmp, Lib.compareBytes]
    · rw [cmp_gt h]; simp [cmp, Lib.compareBytes]
  | x :: a, [] => by simp [cmp, Lib.compareBytes]
  | x :: a, y :: c => by
    rw [List.cons_append]
    rcases u8_tri y x with h | h | h
    · rw [cmp_lt h, cmp_lt h]; simp
    · subst h; rw [cmp_eq, cmp_eq]; exact cmp_snoc_iff a c
    · rw [cmp_gt h, cmp_gt h]; simp

theorem cmp_snoc_snoc : ∀ a c : List UInt8, cmp (a ++ [0]) (c ++ [0]) = cmp a c
  | [], [] => by decide
  | [], x :: c => by
    have hx := u8_not_lt_zero x
    simp only [List.nil_append, List.cons_append]
    rcases u8_tri x 0 with h | h | h
    · exact absurd h hx
    · subst h; rw [cmp_eq]; cases c <;> simp [cmp, Lib.compareBytes]
    · rw [cmp_lt h]; simp [cmp, Lib.compareBytes]
  | x :: a, [] => by
    have hx := u8_not_lt_zero x
    simp only [List.nil_append, List.cons_append]
    rcases u8_tri x 0 with h | h | h
    · exact absurd h hx
    · subst h; rw [cmp_eq]; cases a <;> simp [cmp, Lib.compareBytes]
    · rw [cmp_gt h]; simp [cmp, Lib.compareBytes]
  | x :: a, y :: c => by
    rw [List.cons_append, List.cons_append]
    rcases u8_tri x y with h | h | h
    · rw [cmp_lt h, cmp_lt h]
    · subst h; rw [cmp_eq, cmp_eq]; exact cmp_snoc_snoc a c
    · rw [cmp_gt h, cmp_gt h]

theorem com_snoc : ∀ a : List UInt8, com a (a ++ [0]) = a.length
  | [] => by simp [com]
  | x :: a => by rw [List.cons_append]; unfold com; rw [if_pos rfl, com_snoc a]; rfl

/-- Where one list is below another, the other goes on behind what they have alike. -/
theorem com_lt : ∀ a b : List UInt8, cmp a b = -1 → com a b < b.length
  | [], [] => by intro h; simp [cmp, Lib.compareBytes] at h
  | [], _ :: _ => by intro _; simp [com]
  | _ :: _, [] => by intro h; simp [cmp, Lib.compareBytes] at h
  | x :: a, y :: b => by
    intro h
    unfold com
    by_cases e : x = y
    · subst e; rw [cmp_eq] at h; rw [if_pos rfl]; have := com_lt a b h; simp; omega
    · rw [if_neg e]; simp

/-- The beginning of b that goes one byte on behind what a and b have alike is above a. -/
theorem cmp_between : ∀ a b : List UInt8, cmp a b = -1 → cmp a (b.take (com a b + 1)) = -1
  | [], [] => by intro h; simp [cmp, Lib.compareBytes] at h
  | [], _ :: _ => by intro _; simp [com, cmp, Lib.compareBytes]
  | _ :: _, [] => by intro h; simp [cmp, Lib.compareBytes] at h
  | x :: a, y :: b => by
    intro h
    unfold com
    rcases u8_tri x y with e | e | e
    · have hne : x ≠ y := by intro q; subst q; exact UInt8.lt_irrefl _ e
      rw [if_neg hne, Nat.zero_add, List.take_succ_cons, cmp_lt e]
    · subst e; rw [if_pos rfl, List.take_succ_cons, cmp_eq]; rw [cmp_eq] at h; exact cmp_between a b h
    · rw [cmp_gt e] at h; simp at h

/-- A beginning is not above the list. -/
theorem cmp_take : ∀ (n : Nat) (b : List UInt8), cmp (b.take n) b ≤ 0
  | _, [] => by simp [cmp, Lib.compareBytes]
  | 0, _ :: _ => by simp [cmp, Lib.compareBytes]
  | n + 1, x :: b => by rw [List.take_succ_cons, cmp_eq]; exact cmp_take n b

theorem com_take_self : ∀ (n : Nat) (b : List UInt8), com (b.take n) b = (b.take n).length
  | _, [] => by simp [com]
  | 0, _ :: _ => by simp [com]
  | n + 1, x :: b => by rw [List.take_succ_cons]; unfold com; rw [if_pos rfl, com_take_self n b]; rfl

/-- What is above a and not above b has more bytes than a and b have alike. -/
theorem short : ∀ a b c : List UInt8, cmp a c = -1 → cmp c b ≤ 0 → com a b < c.length
  | [], _, [] => by intro h; simp [cmp, Lib.compareBytes] at h
  | _ :: _, _, [] => by intro h; simp [cmp, Lib.compareBytes] at h
  | [], _, z :: c => by intro _ _; simp [com]
  | _ :: _, [], z :: c => by intro _ h; simp [cmp, Lib.compareBytes] at h
  | x :: a, y :: b, z :: c => by
    intro h1 h2
    unfold com
    by_cases e : x = y
    · subst e
      rw [if_pos rfl]
      rcases u8_tri x z with g | g | g
      · rw [cmp_gt g] at h2; simp at h2
      · subst g; rw [cmp_eq] at h1 h2; have := short a b c h1 h2; simp; omega
      · rw [cmp_gt g] at h1; simp at h1
    · rw [if_neg e]; simp
end Go.Proofs.Ytengbkopihiiaaa.Math
