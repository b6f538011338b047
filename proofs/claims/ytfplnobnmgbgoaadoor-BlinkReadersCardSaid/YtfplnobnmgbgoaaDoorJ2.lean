/-
  The contract of stringslite.Clone at this translation, by one application of the library; no condition but the size.
  Plain facts on lists of bytes: the order that strings.Compare tells, and how many bytes two lists have alike from the beginning on. No condition.
  The map as plain data: pairs whose keys rise; what it has, what a write makes of it.
  The base: words for memory, rows, appends. Made by base.py out of the texts of stage 8.
  The nodes of a B-link tree, as plain data: places, kids, halves.
-/
import Derived.Shelf.LaysM
import Derived.Lib.Bytealg
import Derived.WalkKit
import Derived.Shelf.Strconv.Clone
import Derived.Test.YtfplnobnmgbgoaaDoorProg
import Derived.Test.YtfplnobnmgbgoaaDoorJ1
import Derived.Laws.AppendOwn
import Derived.WalkSpells
import Derived.WalkLawsBesides
import Derived.Deep.QuietTactic
import Derived.Deep.RegionHeld3
import Derived.BigQuiet
import Derived.Deep.Cut
import Derived.Deep.CutBlock
import Derived.Lib.Hide
import Derived.Laws.ResultCell
import Derived.Laws.OwnMore
import Derived.Laws.AppendOwnNone
import Derived.Deep.RegionLaw
import Derived.Maps.AppendAt
import Derived.BigRegion
import Derived.Deep.MidRow
import Derived.Deep.Upon
import Derived.Deep.RegionHeld
import Derived.Laws.StructEq
namespace Go.Proofs
open Go.Shelf
def Tryd.laysM316_ren : Go.Shelf.Ren := ⟨fun | 316 => 60 | n => n, fun | 9 => 9 | 3 => 3 | 4 => 4 | 37 => 23 | 0 => 0 | 127 => 146 | 5 => 5 | n => n, fun | n => n⟩
theorem Tryd.laysM316 : Go.Proofs.LaysM.n316 Tryd.prog Tryd.laysM316_ren := {
  mixed := by kernel_rfl
  f316 := Tryd.func60.trans (congrArg some (by kernel_rfl))
  t0 := Tryd.underlying0
  a0 := Tryd.isAgg0
  z0 := Tryd.sizeOf0
  v0 := Tryd.zeroValue0
  t3 := Tryd.underlying3
  a3 := Tryd.isAgg3
  z3 := Tryd.sizeOf3
  v3 := Tryd.zeroValue3
  t4 := Tryd.underlying4
  a4 := Tryd.isAgg4
  z4 := Tryd.sizeOf4
  v4 := Tryd.zeroValue4
  t9 := Tryd.underlying9
  a9 := Tryd.isAgg9
  z9 := Tryd.sizeOf9
  v9 := Tryd.zeroValue9
  t37 := Tryd.underlying23
  a37 := Tryd.isAgg23
  z37 := Tryd.sizeOf23
  v37 := Tryd.zeroValue23
  t127 := Tryd.underlying146
  a127 := Tryd.isAgg146
  z127 := Tryd.sizeOf146
  v127 := Tryd.zeroValue146
  t5 := Tryd.underlying5
  a5 := Tryd.isAgg5
  z5 := Tryd.sizeOf5
  v5 := Tryd.zeroValue5
  i0 := by kernel_rfl
  i3 := by kernel_rfl
  i4 := by kernel_rfl
  i5 := by kernel_rfl
  i9 := by kernel_rfl
  i37 := by kernel_rfl
  i127 := by kernel_rfl }
open Go.RowKit in
theorem Tryd.stringslite_Clone (s : ByteArray) (w : World) (hlim : s.size ≤ 281474976710656) :
    Calls Tryd.prog 60 #[.string s] w fun e w' => e = .returned (.string s) ∧ Below w.heap.size w w' := Any.stringslite_Clone Tryd.laysM316 s w hlim
open Go.RowKit in
set_option maxHeartbeats 1000000 in
set_option maxRecDepth 100000 in
theorem Tryd.bytealg_CompareString (a b : ByteArray) (w : World) :
    Calls Tryd.prog 91 #[.string a, .string b] w fun e w' => e = .returned (.int .i64 (Lib.compareBytes a.data.toList b.data.toList)) ∧ w' = w := by
  go_enter Tryd.func91, Tryd.ntmps91
  go_wp2
  rw [run_callFunc_extern Tryd.func103 (by kernel_rfl) (by kernel_rfl) (by kernel_rfl) (e := Extern.BytealgCompare.compare) (by kernel_rfl), Lib.run_compareString]
  simp only [Result.andThen]
  rw [Oper.upon_value]
  go_wp2
  go_ret
  exact ⟨rfl, rfl⟩
open Go.RowKit in
set_option maxHeartbeats 1000000 in
theorem Tryd.strings_Compare (a b : ByteArray) (w : World) :
    Calls Tryd.prog 79 #[.string a, .string b] w fun e w' => e = .returned (.int .i64 (Lib.compareBytes a.data.toList b.data.toList)) ∧ w' = w := by
  go_enter Tryd.func79, Tryd.ntmps79
  go_wp2_with (go_at_call 91; refine (Tryd.bytealg_CompareString _ _ _).mono ?_; rintro e w' ⟨rfl, rfl⟩)
  go_ret
  exact ⟨rfl, rfl⟩
end Go.Proofs
namespace Go.Proofs.YtfplnobnmgbgoaaDoor.Math
open Go

abbrev cmp (a b : List UInt8) : Int := Lib.compareBytes a b

/-- How many bytes two lists have alike from the beginning on. -/
def com : List UInt8 → List UInt8 → Nat
  | x :: a, y :: b => if x = y then com a b + 1 else 0
  | _, _ => 0

theorem com_le : ∀ a b : List UInt8, com a b ≤ a.length ∧ com a b ≤ b.length
  | [], _ => by simp [com]
  | _ :: _, [] => by simp [com]
  | x :: a, y :: b => by
    have ih := com_le a b
    unfold com
    by_cases h : x = y
    · rw [if_pos h]; simp; omega
    · rw [if_neg h]; simp

theorem com_comm : ∀ a b : List UInt8, com a b = com b a
  | [], [] => rfl
  | [], _ :: _ => by simp [com]
  | _ :: _, [] => by simp [com]
  | x :: a, y :: b => by
    have ih := com_comm a b
    unfold com
    by_cases h : x = y
    · rw [if_pos h, if_pos h.symm, ih]
    · rw [if_neg h, if_neg (fun e => h e.symm)]

theorem com_self : ∀ a : List UInt8, com a a = a.length
  | [] => rfl
  | x :: a => by unfold com; rw [if_pos rfl, com_self a]; rfl

theorem com_take : ∀ a b : List UInt8, a.take (com a b) = b.take (com a b)
  | [], b => by simp [com]
  | _ :: _, [] => by simp [com]
  | x :: a, y :: b => by
    have ih := com_take a b
    unfold com
    by_cases h : x = y
    · rw [if_pos h]; simp [ih, h]
    · rw [if_neg h]; simp

theorem com_ne : ∀ a b : List UInt8, com a b < a.length → com a b < b.length → a.getD (com a b) 0 ≠ b.getD (com a b) 0
  | [], _ => by simp
  | _ :: _, [] => by simp
  | x :: a, y :: b => by
    have ih := com_ne a b
    unfold com
    by_cases h : x = y
    · rw [if_pos h]; simp only [List.length_cons, List.getD_cons_succ]; intro h1 h2; exact ih (by omega) (by omega)
    · rw [if_neg h]; simp only [List.getD_cons_zero]; intro _ _; exact h

/-- What ends a search for the first place where two lists differ. -/
theorem com_of : ∀ (k : Nat) (a b : List UInt8), k ≤ a.length → k ≤ b.length → (∀ i, i < k → a.getD i 0 = b.getD i 0) → (k = a.length ∨ k = b.length ∨ a.getD k 0 ≠ b.getD k 0) → com a b = k
  | 0, [], _, _, _, _, _ => by simp [com]
  | 0, _ :: _, [], _, _, _, _ => by simp [com]
  | 0, x :: a, y :: b, _, _, _, h => by
    unfold com
    rcases h with h | h | h
    · simp at h
    · simp at h
    · rw [if_neg (by simpa using h)]
  | k + 1, [], _, h, _, _, _ => by simp at h
  | k + 1, _ :: _, [], _, h, _, _ => by simp at h
  | k + 1, x :: a, y :: b, ha, hb, hs, h => by
    have h0 : x = y := by simpa using hs 0 (by omega)
    unfold com
    rw [if_pos h0, com_of k a b (by simpa using ha) (by simpa using hb) (fun i hi => by simpa using hs (i + 1) (by omega)) (by simpa using h)]

theorem com_tri : ∀ a b c : List UInt8, min (com a b) (com b c) ≤ com a c
  | [], _, _ => by simp [com]
  | _ :: _, [], _ => by simp [com]
  | _ :: _, _ :: _, [] => by simp [com]
  | x :: a, y :: b, z :: c => by
    have ih := com_tri a b c
    unfold com
    by_cases h1 : x = y
    · by_cases h2 : y = z
      · rw [if_pos h1, if_pos h2, if_pos (h1.trans h2)]; omega
      · rw [if_pos h1, if_neg h2]; omega
    · rw [if_neg h1]; omega

theorem u8_tri (x y : UInt8) : x < y ∨ x = y ∨ y < x := by
  rcases Nat.lt_trichotomy x.toNat y.toNat with h | h | h
  · exact .inl (UInt8.lt_iff_toNat_lt.2 h)
  · exact .inr (.inl (UInt8.toNat_inj.1 h))
  · exact .inr (.inr (UInt8.lt_iff_toNat_lt.2 h))

theorem cmp_cons (x y : UInt8) (a b : List UInt8) : cmp (x :: a) (y :: b) = if x < y then -1 else if y < x then 1 else cmp a b := rfl
theorem cmp_lt {x y : UInt8} (h : x < y) (a b : List UInt8) : cmp (x :: a) (y :: b) = -1 := by rw [cmp_cons, if_pos h]
theorem cmp_gt {x y : UInt8} (h : y < x) (a b : List UInt8) : cmp (x :: a) (y :: b) = 1 := by
  rw [cmp_cons, if_neg (UInt8.lt_asymm h), if_pos h]
theorem cmp_eq (x : UInt8) (a b : List UInt8) : cmp (x :: a) (x :: b) = cmp a b := by
  rw [cmp_cons, if_neg (UInt8.lt_irrefl x), if_neg (UInt8.lt_irrefl x)]

/-- Two lists stand one below the other, alike, or the other way round. -/
theorem cmp_range : ∀ a b : List UInt8, cmp a b = -1 ∨ cmp a b = 0 ∨ cmp a b = 1
  | [], [] => .inr (.inl rfl)
  | [], _ :: _ => .inl rfl
  | _ :: _, [] => .inr (.inr rfl)
  | x :: a, y :: b => by
    rcases u8_tri x y with h | h | h
    · exact .inl (cmp_lt h a b)
    · subst h; rw [cmp_eq]; exact cmp_range a b
    · exact .inr (.inr (cmp_gt h a b))

theorem cmp_anti : ∀ a b : List UInt8, cmp a b = -cmp b a
  | [], [] => rfl
  | [], _ :: _ => rfl
  | _ :: _, [] => rfl
  | x :: a, y :: b => by
    rcases u8_tri x y with h | h | h
    · rw [cmp_lt h, cmp_gt h]
    · subst h; rw [cmp_eq, cmp_eq]; exact cmp_anti a b
    · rw [cmp_gt h, cmp_lt h]; rfl

theorem cmp_zero : ∀ a b : List UInt8, cmp a b = 0 ↔ a = b
  | [], [] => by simp [cmp, Lib.compareBytes]
  | [], _ :: _ => by simp [cmp, Lib.compareBytes]
  | _ :: _, [] => by simp [cmp, Lib.compareBytes]
  | x :: a, y :: b => by
    rcases u8_tri x y with h | h | h
    · rw [cmp_lt h]; simp; intro e; exact absurd (e ▸ h) (UInt8.lt_irrefl _)
    · subst h; rw [cmp_eq, cmp_zero a b]; simp
    · rw [cmp_gt h]; simp; intro e; exact absurd (e ▸ h) (UInt8.lt_irrefl _)

theorem cmp_self (a : List UInt8) : cmp a a = 0 := (cmp_zero a a).2 rfl

theorem cmp_trans : ∀ a b c : List UInt8, cmp a b ≤ 0 → cmp b c ≤ 0 → cmp a c = min (cmp a b) (cmp b c)
  | [], [], c => by intro _ h; rw [cmp_self]; omega
  | [], _ :: _, [] => by intro _ h; simp [cmp, Lib.compareBytes] at h
  | [], y :: b, z :: c => by
    intro _ h
    have e1 : cmp [] (y :: b) = -1 := rfl
    have e2 : cmp [] (z :: c) = -1 := rfl
    rw [e1, e2]
    rcases cmp_range (y :: b) (z :: c) with g | g | g <;> omega
  | _ :: _, [], _ => by intro h; simp [cmp, Lib.compareBytes] at h
  | x :: a, y :: b, [] => by intro _ h; simp [cmp, Lib.compareBytes] at h
  | x :: a, y :: b, z :: c => by
    intro h1 h2
    have ih := cmp_trans a b c
    rcases u8_tri x y with h | h | h
    · rcases u8_tri y z with g | g | g
      · rw [cmp_lt (UInt8.lt_trans h g), cmp_lt h, cmp_lt g]; rfl
      · subst g; rw [cmp_eq] at h2 ⊢; rw [cmp_lt h, cmp_lt h]; rcases cmp_range b c with e | e | e <;> omega
      · rw [cmp_gt g] at h2; omega
    · subst h
      rcases u8_tri x z with g | g | g
      · rw [cmp_eq] at h1 ⊢; rw [cmp_lt g, cmp_lt g]; rcases cmp_range a b with e | e | e <;> omega
      · subst g; rw [cmp_eq] at h1 h2; rw [cmp_eq, cmp_eq, cmp_eq]; exact ih h1 h2
      · rw [cmp_gt g] at h2; omega
    · rw [cmp_gt h] at h1; omega

/-- A list is below what goes on behind it. -/
theorem cmp_snoc (a : List UInt8) : cmp a (a ++ [0]) = -1 := by
  induction a with
  | nil => rfl
  | cons x a ih => rw [List.cons_append, cmp_eq]; exact ih

theorem u8_not_lt_zero (x : UInt8) : ¬ x < 0 := by intro h; have := UInt8.lt_iff_toNat_lt.1 h; simp at this

/-- Above a list is just what is not below the list with a zero behind it. -/
theorem cmp_snoc_iff : ∀ a c : List UInt8, cmp c a = 1 ↔ 0 ≤ cmp c (a ++ [0])
  | [], [] => by decide
  | [], x :: c => by
    have hx := u8_not_lt_zero x
    simp only [List.nil_append]
    rcases u8_tri x 0 with h | h | h
    · exact absurd h hx
    · subst h; rw [cmp_eq]; cases c <;> simp [cmp, Lib.compareBytes]
    · rw [cmp_gt h]; simp [cmp, Lib.compareBytes]
  | x :: a, [] => by simp [cmp, Lib.compareBytes]
  | x :: a, y :: c => by
    rw [List.cons_append]
    rcases u8_tri y x with h | h | h
    · rw [cmp_lt h, cmp_lt h]; simp
    · subst h; rw [cmp_eq, cmp_eq]; exact cmp_snoc_iff a c
    · rw [cmp_gt h, cmp_gt h]; simp

theorem cmp_snoc_snoc : ∀ a c : List UInt8, cmp (a ++ [0]) (c ++ [0]) = cmp a c
  | [], [] => by decide
  | [], x :: c => by
    have hx := u8_not_lt_zero x
    simp only [List.nil_append, List.cons_append]
    rcases u8_tri x 0 with h | h | h
    · exact absurd h hx
    · subst h; rw [cmp_eq]; cases c <;> simp [cmp, Lib.compareBytes]
    · rw [cmp_lt h]; simp [cmp, Lib.compareBytes]
  | x :: a, [] => by
    have hx := u8_not_lt_zero x
    simp only [List.nil_append, List.cons_append]
    rcases u8_tri x 0 with h | h | h
    · exact absurd h hx
    · subst h; rw [cmp_eq]; cases a <;> simp [cmp, Lib.compareBytes]
    · rw [cmp_gt h]; simp [cmp, Lib.compareBytes]
  | x :: a, y :: c => by
    rw [List.cons_append, List.cons_append]
    rcases u8_tri x y with h | h | h
    · rw [cmp_lt h, cmp_lt h]
    · subst h; rw [cmp_eq, cmp_eq]; exact cmp_snoc_snoc a c
    · rw [cmp_gt h, cmp_gt h]

theorem com_snoc : ∀ a : List UInt8, com a (a ++ [0]) = a.length
  | [] => by simp [com]
  | x :: a => by rw [List.cons_append]; unfold com; rw [if_pos rfl, com_snoc a]; rfl

/-- Where one list is below another, the other goes on behind what they have alike. -/
theorem com_lt : ∀ a b : List UInt8, cmp a b = -1 → com a b < b.length
  | [], [] => by intro h; simp [cmp, Lib.compareBytes] at h
  | [], _ :: _ => by intro _; simp [com]
  | _ :: _, [] => by intro h; simp [cmp, Lib.compareBytes] at h
  | x :: a, y :: b => by
    intro h
    unfold com
    by_cases e : x = y
    · subst e; rw [cmp_eq] at h; rw [if_pos rfl]; have := com_lt a b h; simp; omega
    · rw [if_neg e]; simp

/-- The beginning of b that goes one byte on behind what a and b have alike is above a. -/
theorem cmp_between : ∀ a b : List UInt8, cmp a b = -1 → cmp a (b.take (com a b + 1)) = -1
  | [], [] => by intro h; simp [cmp, Lib.compareBytes] at h
  | [], _ :: _ => by intro _; simp [com, cmp, Lib.compareBytes]
  | _ :: _, [] => by intro h; simp [cmp, Lib.compareBytes] at h
  | x :: a, y :: b => by
    intro h
    unfold com
    rcases u8_tri x y with e | e | e
    · have hne : x ≠ y := by intro q; subst q; exact UInt8.lt_irrefl _ e
      rw [if_neg hne, Nat.zero_add, List.take_succ_cons, cmp_lt e]
    · subst e; rw [if_pos rfl, List.take_succ_cons, cmp_eq]; rw [cmp_eq] at h; exact cmp_between a b h
    · rw [cmp_gt e] at h; simp at h

/-- A beginning is not above the list. -/
theorem cmp_take : ∀ (n : Nat) (b : List UInt8), cmp (b.take n) b ≤ 0
  | _, [] => by simp [cmp, Lib.compareBytes]
  | 0, _ :: _ => by simp [cmp, Lib.compareBytes]
  | n + 1, x :: b => by rw [List.take_succ_cons, cmp_eq]; exact cmp_take n b

theorem com_take_self : ∀ (n : Nat) (b : List UInt8), com (b.take n) b = (b.take n).length
  | _, [] => by simp [com]
  | 0, _ :: _ => by simp [com]
  | n + 1, x :: b => by rw [List.take_succ_cons]; unfold com; rw [if_pos rfl, com_take_self n b]; rfl

/-- What is above a and not above b has more bytes than a and b have alike. -/
theorem short : ∀ a b c : List UInt8, cmp a c = -1 → cmp c b ≤ 0 → com a b < c.length
  | [], _, [] => by intro h; simp [cmp, Lib.compareBytes] at h
  | _ :: _, _, [] => by intro h; simp [cmp, Lib.compareBytes] at h
  | [], _, z :: c => by intro _ _; simp [com]
  | _ :: _, [], z :: c => by intro _ h; simp [cmp, Lib.compareBytes] at h
  | x :: a, y :: b, z :: c => by
    intro h1 h2
    unfold com
    by_cases e : x = y
    · subst e
      rw [if_pos rfl]
      rcases u8_tri x z with g | g | g
      · rw [cmp_gt g] at h2; simp at h2
      · subst g; rw [cmp_eq] at h1 h2; have := short a b c h1 h2; simp; omega
      · rw [cmp_gt g] at h1; simp at h1
    · rw [if_neg e]; simp
end Go.Proofs.YtfplnobnmgbgoaaDoor.Math
namespace Go.Proofs.YtfplnobnmgbgoaaDoor
open Go.RowKit Go.Lib
set_option linter.unusedVariables false
set_option maxRecDepth 20000
set_option maxRecDepth 20000

def kcmp (a b : ByteArray) : Int := Lib.compareBytes a.data.toList b.data.toList
def kl (a b : ByteArray) : Prop := kcmp a b < 0
instance (a b : ByteArray) : Decidable (kl a b) := inferInstanceAs (Decidable (kcmp a b < 0))
theorem bytes_ext {a b : ByteArray} (h : a.data.toList = b.data.toList) : a = b := by
  obtain ⟨⟨a⟩⟩ := a
  obtain ⟨⟨b⟩⟩ := b
  simp at h
  rw [h]
theorem kcmp_zero {a b : ByteArray} : kcmp a b = 0 ↔ a = b := by
  unfold kcmp
  rw [show (Lib.compareBytes a.data.toList b.data.toList = 0 ↔ _) from Math.cmp_zero _ _]
  exact ⟨bytes_ext, fun h => by rw [h]⟩
theorem kcmp_anti (a b : ByteArray) : kcmp a b = -kcmp b a := Math.cmp_anti _ _
theorem kcmp_range (a b : ByteArray) : kcmp a b = -1 ∨ kcmp a b = 0 ∨ kcmp a b = 1 := Math.cmp_range _ _
theorem kl_irrefl (a : ByteArray) : ¬ kl a a := by
  unfold kl
  rw [kcmp_zero.2 rfl]
  decide
theorem kl_trans {a b c : ByteArray} (h : kl a b) (k : kl b c) : kl a c := by
  unfold kl at *
  have := Math.cmp_trans a.data.toList b.data.toList c.data.toList (by unfold kcmp at h; exact Int.le_of_lt h) (by unfold kcmp at k; exact Int.le_of_lt k)
  unfold kcmp at *
  change Lib.compareBytes _ _ = min (Lib.compareBytes _ _) (Lib.compareBytes _ _) at this
  omega
theorem kl_tri (a b : ByteArray) : kl a b ∨ a = b ∨ kl b a := by
  unfold kl
  rcases kcmp_range a b with h | h | h
  · exact .inl (by omega)
  · exact .inr (.inl (kcmp_zero.1 h))
  · exact .inr (.inr (by rw [kcmp_anti]; omega))
theorem kl_asymm {a b : ByteArray} (h : kl a b) : ¬ kl b a := fun k => kl_irrefl a (kl_trans h k)
theorem kl_ne {a b : ByteArray} (h : kl a b) : a ≠ b := fun e => kl_irrefl b (e ▸ h)
/-- not above -/
theorem kl_le_lt {a b c : ByteArray} (h : ¬ kl b a) (k : kl b c) : kl a c := by
  rcases kl_tri a b with h1 | h1 | h1
  · exact kl_trans h1 k
  · exact h1 ▸ k
  · exact absurd h1 h
theorem kl_lt_le {a b c : ByteArray} (h : kl a b) (k : ¬ kl c b) : kl a c := by
  rcases kl_tri b c with h1 | h1 | h1
  · exact kl_trans h h1
  · exact h1 ▸ h
  · exact absurd h1 k

structure Pr where
  (k v : ByteArray)
def Pr.cs (p : Pr) : List Value := [.string p.k, .string p.v]
def pcs (l : List Pr) : List Value := l.flatMap Pr.cs
def Asc (l : List Pr) : Prop := l.Pairwise fun p q => kl p.k q.k
def getL (l : List Pr) (key : ByteArray) : Option ByteArray := (l.find? fun p => decide (p.k = key)).map Pr.v
def putL : List Pr → ByteArray → ByteArray → List Pr
  | [], k, v => [⟨k, v⟩]
  | p :: t, k, v => if kl p.k k then p :: putL t k v else if p.k = k then ⟨k, v⟩ :: t else ⟨k, v⟩ :: p :: t
def delL (l : List Pr) (key : ByteArray) : List Pr := l.filter fun p => !decide (p.k = key)
def lowL (l : List Pr) (key : ByteArray) : List Pr := l.takeWhile fun p => decide (kl p.k key)
def hiL (l : List Pr) (key : ByteArray) : List Pr := l.dropWhile fun p => decide (kl p.k key)
def hasL (l : List Pr) (key : ByteArray) : Bool := match hiL l key with
  | p :: _ => decide (p.k = key)
  | [] => false
/-- what is not below a key, or (aft) above it -/
def nexts (l : List Pr) (key : ByteArray) (aft : Bool) : List Pr := if (hasL l key && aft) = true then (hiL l key).tail else hiL l key

theorem split_L (l : List Pr) (key : ByteArray) : lowL l key ++ hiL l key = l := List.takeWhile_append_dropWhile
theorem low_mem {l : List Pr} {key : ByteArray} {p : Pr} (h : p ∈ lowL l key) : kl p.k key := by
  have := List.all_takeWhile (p := fun p : Pr => decide (kl p.k key)) (l := l)
  exact of_decide_eq_true (List.all_eq_true.1 this p h)
theorem Asc.hi {l : List Pr} (h : Asc l) {key : ByteArray} {p : Pr} (hp : p ∈ hiL l key) : ¬ kl p.k key := by
  induction l with
  | nil => simp [hiL] at hp
  | cons q t ih =>
    unfold hiL at hp
    rw [List.dropWhile_cons] at hp
    split at hp
    · exact ih (List.Pairwise.of_cons h) hp
    · rename_i hq
      simp only [decide_eq_true_eq] at hq
      rcases List.mem_cons.1 hp with rfl | hp
      · exact hq
      · exact fun hk => hq (kl_trans (List.rel_of_pairwise_cons h hp) hk)
theorem Asc.low {l : List Pr} (h : Asc l) (key : ByteArray) : Asc (lowL l key) := List.Pairwise.sublist (List.takeWhile_sublist _) h
theorem Asc.his {l : List Pr} (h : Asc l) (key : ByteArray) : Asc (hiL l key) := List.Pairwise.sublist (List.dropWhile_sublist _) h
/-- Where it is there, it is the first of those that are not below it. -/
theorem has_true {l : List Pr} {key : ByteArray} (h : hasL l key = true) : ∃ v t, hiL l key = ⟨key, v⟩ :: t := by
  unfold hasL at h
  split at h
  · rename_i p t hp
    obtain ⟨k, v⟩ := p
    simp only [decide_eq_true_eq] at h
    subst h
    exact ⟨v, t, hp⟩
  · cases h
theorem Asc.has_false {l : List Pr} (ha : Asc l) {key : ByteArray} (h : hasL l key = false) {p : Pr} (hp : p ∈ hiL l key) : kl key p.k := by
  unfold hasL at h
  split at h
  · rename_i q t hq
    have hh := ha.his key
    rw [hq] at hp hh
    have h0 := ha.hi (key := key) (p := q) (by rw [hq]; exact List.mem_cons_self)
    simp only [decide_eq_false_iff_not] at h
    have hq : kl key q.k := by
      rcases kl_tri key q.k with h1 | h1 | h1
      · exact h1
      · exact absurd h1.symm h
      · exact absurd h1 h0
    rcases List.mem_cons.1 hp with rfl | hp
    · exact hq
    · exact kl_trans hq (List.rel_of_pairwise_cons hh hp)
  · rename_i hq
    rw [hq] at hp
    cases hp
theorem get_low {l : List Pr} {key : ByteArray} (m : List Pr) : getL (lowL l key ++ m) key = getL m key := by
  unfold getL
  rw [List.find?_append, List.find?_eq_none.2 (fun p hp => by simpa using kl_ne (low_mem hp))]
  rfl
theorem Asc.get_hi {l : List Pr} (ha : Asc l) {key : ByteArray} (h : hasL l key = false) : getL l key = none := by
  rw [← split_L l key, get_low]
  unfold getL
  rw [List.find?_eq_none.2 (fun p hp => by simpa using (kl_ne (ha.has_false h hp)).symm)]
  rfl
theorem get_has {l : List Pr} {key v : ByteArray} {t : List Pr} (h : hiL l key = ⟨key, v⟩ :: t) : getL l key = some v := by
  rw [← split_L l key, get_low, h]
  simp [getL]
theorem put_low : ∀ (l : List Pr) (key v : ByteArray), putL l key v = lowL l key ++ ⟨key, v⟩ :: (if hasL l key = true then (hiL l key).tail else hiL l key)
  | [], key, v => by simp [putL, lowL, hiL, hasL]
  | p :: t, key, v => by
    have ih := put_low t key v
    unfold putL lowL hiL
    rw [List.takeWhile_cons, List.dropWhile_cons]
    by_cases h : kl p.k key
    · have hh : hasL (p :: t) key = hasL t key := by simp [hasL, hiL, h]
      rw [if_pos h, if_pos (decide_eq_true h), if_pos (decide_eq_true h), ih, hh]
      rfl
    · have hh : hasL (p :: t) key = decide (p.k = key) := by simp [hasL, hiL, h]
      have hd : decide (kl p.k key) = false := by simpa using h
      rw [if_neg h, hh]
      simp only [hd, Bool.false_eq_true, if_false, List.nil_append, List.tail_cons]
      by_cases e : p.k = key
      · rw [if_pos e, if_pos (decide_eq_true e)]
      · rw [if_neg e, if_neg (by simpa using e)]
theorem Asc.del_low {l : List Pr} (ha : Asc l) (key : ByteArray) : delL l key = lowL l key ++ (if hasL l key = true then (hiL l key).tail else hiL l key) := by
  have h1 : delL l key = delL (lowL l key) key ++ delL (hiL l key) key := by
    unfold delL
    rw [← List.filter_append, split_L]
  rw [h1]
  congr 1
  · exact List.filter_eq_self.2 fun p hp => by simpa using kl_ne (low_mem hp)
  · cases h : hasL l key with
    | true =>
      obtain ⟨v, t, ht⟩ := has_true h
      rw [ht, if_pos rfl]
      unfold delL
      rw [List.filter_cons_of_neg (by simp), List.tail_cons]
      have hh := ha.his key
      rw [ht] at hh
      exact List.filter_eq_self.2 fun p hp => by simpa using (kl_ne (List.rel_of_pairwise_cons hh hp)).symm
    | false =>
      rw [if_neg (by simp)]
      exact List.filter_eq_self.2 fun p hp => by simpa using (kl_ne (ha.has_false h hp)).symm

theorem Asc.put {l : List Pr} (ha : Asc l) (key v : ByteArray) : Asc (putL l key v) := by
  rw [put_low]
  unfold Asc
  rw [List.pairwise_append, List.pairwise_cons]
  have hrest : ∀ p ∈ (if hasL l key = true then (hiL l key).tail else hiL l key), kl key p.k := by
    intro p hp
    cases h : hasL l key with
    | true =>
      obtain ⟨v', t, ht⟩ := has_true h
      rw [if_pos h, ht, List.tail_cons] at hp
      have hh := ha.his key
      rw [ht] at hh
      exact List.rel_of_pairwise_cons hh hp
    | false =>
      rw [if_neg (by simp [h])] at hp
      exact ha.has_false h hp
  refine ⟨ha.low key, ⟨hrest, ?_⟩, ?_⟩
  · split
    · exact List.Pairwise.sublist (List.tail_sublist _) (ha.his key)
    · exact ha.his key
  · intro p hp q hq
    rcases List.mem_cons.1 hq with rfl | hq
    · exact low_mem hp
    · exact kl_trans (low_mem hp) (hrest q hq)
theorem Asc.del {l : List Pr} (ha : Asc l) (key : ByteArray) : Asc (delL l key) := List.Pairwise.sublist (List.filter_sublist) ha
theorem get_put : ∀ (l : List Pr) (key v k : ByteArray), getL (putL l key v) k = if k = key then some v else getL l k
  | [], key, v, k => by
    by_cases h : k = key
    · simp [putL, getL, h]
    · simp [putL, getL, h, Ne.symm h]
  | p :: t, key, v, k => by
    have ih := get_put t key v k
    unfold getL at *
    unfold putL
    split
    · rename_i h1
      rw [List.find?_cons, List.find?_cons]
      by_cases h2 : p.k = k
      · have : k ≠ key := by rw [← h2]; exact kl_ne h1
        simp [h2, this]
      · simp only [h2, decide_false]
        exact ih
    · split
      · rename_i h1 h2
        rw [List.find?_cons, List.find?_cons]
        by_cases h3 : k = key
        · simp [h3]
        · have h4 : ¬ key = k := fun e => h3 e.symm
          have h5 : ¬ p.k = k := by rw [h2]; exact h4
          simp [h3, h4, h5]
      · rw [List.find?_cons]
        by_cases h3 : k = key
        · simp [h3]
        · have h4 : ¬ key = k := fun e => h3 e.symm
          simp [h3, h4]
theorem get_del (l : List Pr) (key k : ByteArray) : getL (delL l key) k = if k = key then none else getL l k := by
  unfold getL delL
  rw [List.find?_filter]
  by_cases h : k = key
  · rw [if_pos h, List.find?_eq_none.2 (fun p _ => by subst h; simp)]
    rfl
  · rw [if_neg h]
    congr 2
    funext p
    by_cases e : p.k = k
    · simp [e, h]
    · simp [e]
theorem get_mem {l : List Pr} {k v : ByteArray} (h : getL l k = some v) : ⟨k, v⟩ ∈ l := by
  unfold getL at h
  obtain ⟨p, hp, rfl⟩ := Option.map_eq_some_iff.1 h
  have h1 := List.find?_some hp
  have h2 := List.mem_of_find?_eq_some hp
  simp only [decide_eq_true_eq] at h1
  subst h1
  exact h2
theorem Asc.get_of_mem {l : List Pr} (ha : Asc l) {k v : ByteArray} (h : ⟨k, v⟩ ∈ l) : getL l k = some v := by
  induction l with
  | nil => cases h
  | cons p t ih =>
    unfold getL at *
    rw [List.find?_cons]
    rcases List.mem_cons.1 h with rfl | h
    · simp
    · have hne : p.k ≠ k := kl_ne (List.rel_of_pairwise_cons ha h)
      simp only [hne, decide_false]
      exact ih (List.Pairwise.of_cons ha) h
/-- Two maps that have the same are the same. -/
theorem Asc.ext : ∀ {l m : List Pr}, Asc l → Asc m → (∀ k, getL l k = getL m k) → l = m
  | [], [], _, _, _ => rfl
  | [], p :: t, _, _, h => by
    have := h p.k
    simp [getL] at this
  | p :: t, [], _, _, h => by
    have := h p.k
    simp [getL] at this
  | p :: t, q :: s, hl, hm, h => by
    have hpq : p.k = q.k := by
      rcases kl_tri p.k q.k with h1 | h1 | h1
      · exfalso
        have e1 : getL (p :: t) p.k = some p.v := by simp [getL]
        rw [h] at e1
        have := get_mem e1
        rcases List.mem_cons.1 this with h2 | h2
        · exact kl_ne h1 (congrArg Pr.k h2)
        · exact kl_irrefl _ (kl_trans h1 (List.rel_of_pairwise_cons hm h2))
      · exact h1
      · exfalso
        have e1 : getL (q :: s) q.k = some q.v := by simp [getL]
        rw [← h] at e1
        have := get_mem e1
        rcases List.mem_cons.1 this with h2 | h2
        · exact kl_ne h1 (congrArg Pr.k h2)
        · exact kl_irrefl _ (kl_trans h1 (List.rel_of_pairwise_cons hl h2))
    have hv : p.v = q.v := by
      have := h p.k
      simp only [getL, List.find?_cons, decide_true, hpq] at this
      simpa using this
    have ht : t = s := Asc.ext (List.Pairwise.of_cons hl) (List.Pairwise.of_cons hm) fun k => by
      have hk := h k
      by_cases e : p.k = k
      · have n1 : getL t k = none := by
          unfold getL
          rw [List.find?_eq_none.2 (fun r hr => by simpa using fun e2 => kl_ne (List.rel_of_pairwise_cons hl hr) (e.trans e2.symm))]
          rfl
        have n2 : getL s k = none := by
          unfold getL
          rw [List.find?_eq_none.2 (fun r hr => by simpa using fun e2 => kl_ne (List.rel_of_pairwise_cons hm hr) ((hpq.symm.trans e).trans e2.symm))]
          rfl
        rw [n1, n2]
      · have e2 : ¬ q.k = k := by rw [← hpq]; exact e
        simpa [getL, List.find?_cons, e, e2] using hk
    obtain ⟨pk, pv⟩ := p
    obtain ⟨qk, qv⟩ := q
    simp only at hpq hv
    rw [hpq, hv, ht]
theorem put_length (l : List Pr) (k v : ByteArray) : (putL l k v).length ≤ l.length + 1 := by
  have h1 := congrArg List.length (split_L l k)
  rw [put_low]
  split <;> simp at h1 ⊢ <;> omega
theorem del_length (l : List Pr) (k : ByteArray) : (delL l k).length ≤ l.length := List.length_filter_le _ _
end Go.Proofs.YtfplnobnmgbgoaaDoor
namespace Go.Proofs.YtfplnobnmgbgoaaDoor
open Go.RowKit Go.Lib
set_option linter.unusedVariables false
set_option maxRecDepth 20000
set_option maxRecDepth 20000
set_option linter.unusedSimpArgs false

def No (_ : Nat) : Prop := False
theorem At.no {w w' : World} {g : Nat} {o : Obj} (h : At w g o) (t : Turn No w w') : At w' g o := h.turn t (fun h => h)
theorem At.new2 (w : World) (o o2 : Obj) : At ((w.alloc o).alloc o2) (w.heap.size + 1) o2 := by simpa using At.new (w.alloc o) o2
theorem Turn.set1 (w : World) (g i : Nat) (u : Value) : Turn (fun k => k = g) w (w.setCell ⟨g, i, none⟩ u) := Turn.setCell (X := fun k => k = g) (p := ⟨g, i, none⟩) (Turn.refl _ w) (Or.inl rfl) u
def Fit (a : ByteArray) : Prop := a.size ≤ 140737488355328
theorem bytes_beq (a b : ByteArray) : (a.toList == b.toList) = decide (a = b) := by
  rw [ByteArray.toList_eq, ByteArray.toList_eq]
  obtain ⟨⟨x⟩⟩ := a
  obtain ⟨⟨y⟩⟩ := b
  by_cases h : x = y
  · subst h; simp
  · simp [h]
theorem flat_length {α : Type} (f : α → List Value) (n : Nat) (h : ∀ x, (f x).length = n) : ∀ l : List α, (l.flatMap f).length = l.length * n
  | [] => by simp
  | x :: l => by rw [List.flatMap_cons, List.length_append, h, flat_length f n h l, List.length_cons, Nat.succ_mul]; omega
theorem flat_at {α : Type} (f : α → List Value) (n : Nat) (h : ∀ x, (f x).length = n) : ∀ (l : List α) (j i : Nat) (x : α), l[j]? = some x → i < n → (l.flatMap f)[j * n + i]? = (f x)[i]?
  | y :: l, 0, i, x, hx, hi => by
    simp at hx
    subst hx
    rw [List.flatMap_cons, Nat.zero_mul, Nat.zero_add, List.getElem?_append_left (by rw [h]; exact hi)]
  | y :: l, j + 1, i, x, hx, hi => by
    rw [List.flatMap_cons, List.getElem?_append_right (by rw [h, Nat.succ_mul]; omega), h, show (j + 1) * n + i - n = j * n + i by rw [Nat.succ_mul]; omega]
    exact flat_at f n h l j i x (by simpa using hx) hi
theorem pcs_length (l : List Pr) : (pcs l).length = l.length * 2 := flat_length _ 2 (fun _ => rfl) l
theorem pcs_at {l : List Pr} {j : Nat} {x : Pr} (h : l[j]? = some x) (i : Nat) (hi : i < 2) : (pcs l)[j * 2 + i]? = x.cs[i]? := flat_at _ 2 (fun _ => rfl) l j i x h hi
theorem pcs_append (l m : List Pr) : pcs (l ++ m) = pcs l ++ pcs m := List.flatMap_append ..
def Row (w : World) (A : Option Addr) (xs : List Value) : Prop :=
  ∀ j u, xs[j]? = some u → ∃ b o, A = some ⟨b, o, none⟩ ∧ b < w.heap.size ∧ w.cell? ⟨b, o + j, none⟩ = some u
theorem Row.turn {X : Nat → Prop} {w w' : World} {A : Option Addr} {xs : List Value} (h : Row w A xs) (t : Turn X w w') (hX : ∀ b o, A = some ⟨b, o, none⟩ → ¬ X b) : Row w' A xs := fun j u hj => by
  obtain ⟨b, o, hA, hb, hc⟩ := h j u hj
  exact ⟨b, o, hA, Nat.lt_of_lt_of_le hb t.size, (World.cell?_of_block (w := w) (t.block b hb (hX b o hA))).trans hc⟩
theorem Row.nil (w : World) (A : Option Addr) : Row w A [] := fun j u h => by simp at h
theorem row_of_own {w : World} {base : Nat} {e : TypeId} {size n cap : Nat} {A : Option Addr} {xs : List Value} (h : w.ownsRow base e size (.slice A n cap) n xs) : Row w A xs := fun j u hj => by
  obtain ⟨hl, ⟨hv, hn⟩ | ⟨g, c, cur, hv, hb, hg, hn, hc, hs, ht⟩⟩ := h
  · subst hn
    rw [Nat.zero_mul] at hl
    rw [List.eq_nil_of_length_eq_zero hl] at hj
    simp at hj
  · injection hv with hA _ _
    refine ⟨g, 0, hA, (Array.getElem?_eq_some_iff.1 hg).1, ?_⟩
    rw [cell_of_row w g _ cur e (0, 0) hg, Nat.zero_add]
    rw [← ht, List.getElem?_take] at hj
    split at hj
    · simpa using hj
    · cases hj
theorem own_grown {w w' : World} {base : Nat} {e : TypeId} {size n : Nat} {v : Value} {xs : List Value} {X : Nat → Prop} (h : w.ownsRow base e size v n xs) (t : Turn X w w') (hX : ∀ k, v.ownBlock = some k → ¬ X k) : w'.ownsRow base e size v n xs := by
  refine ⟨h.1, ?_⟩
  rcases h.2 with hn | ⟨g, cap, cur, rfl, hb, hgg, rest⟩
  · exact .inl hn
  · refine .inr ⟨g, cap, cur, rfl, hb, ?_, rest⟩
    rw [t.block g (Array.getElem?_eq_some_iff.1 hgg).1 (hX g rfl)]
    exact hgg
theorem Row.pair {w : World} {A : Option Addr} {l : List Pr} (h : Row w A (pcs l)) {j : Nat} {p : Pr} (hj : l[j]? = some p) :
    ∃ b o, A = some ⟨b, o, none⟩ ∧ b < w.heap.size ∧ w.cell? ⟨b, o + j * 2, none⟩ = some (.string p.k) ∧ w.cell? ⟨b, o + j * 2 + 1, none⟩ = some (.string p.v) := by
  obtain ⟨b, o, hA, hb, h0⟩ := h (j * 2 + 0) (.string p.k) (by rw [pcs_at hj 0 (by decide)]; rfl)
  obtain ⟨b', o', hA', _, h1⟩ := h (j * 2 + 1) (.string p.v) (by rw [pcs_at hj 1 (by decide)]; rfl)
  rw [hA] at hA'
  injection hA' with hA'
  injection hA' with e1 e2
  subst e1 e2
  exact ⟨b, o, hA, hb, h0, h1⟩
theorem turn_of_grown {w w' : World} (h : w.grownBy w' none) : Turn No w w' := (Turn.refl No w).grown h fun k hk => by cases hk
theorem info_parts {P : Program} {e : TypeId} {z : Value} {s b : Nat} (h : (P.info? e).map (fun i => (i.zero, i.size, i.bytes)) = some (some z, s, b)) : ∃ i, P.info? e = some i ∧ i.zero = some z ∧ i.size = s ∧ i.bytes = b := by
  cases hi : P.info? e with
  | none => rw [hi] at h; cases h
  | some i =>
    rw [hi] at h
    simp only [Option.map_some, Option.some.injEq, Prod.mk.injEq] at h
    exact ⟨i, rfl, h.1, h.2.1, h.2.2⟩
theorem own_form {w : World} {base : Nat} {e : TypeId} {size n : Nat} {v : Value} {xs : List Value} (h : w.ownsRow base e size v n xs) : ∃ A cap, v = .slice A n cap := by
  rcases h.2 with ⟨hv, hn⟩ | ⟨g, cap, cur, hv, _⟩
  · subst hn; exact ⟨none, 0, hv⟩
  · exact ⟨_, cap, hv⟩
structure AppRun (t ty : TypeId) (vs vx r : Value) (w w' : World) : Prop where
  out : (Builtin.append_ #[t, t] ty #[vs, vx]).run Tryd.prog w = .ok r w'
theorem step_append_run {w w' : World} {ops : Array Oper} {o : Oper} {a : Act} {K : Act → World → Prop} {Q : Exit → Act → World → Prop} {E : Prop} (hgd : o.guard = none) (s x : Operand) (t : TypeId)
    (ho : o.op = .call { callee := .builtin .append, args := #[s, x], argTypes := #[t, t] }) (vs vx r : Value) (hs : a.eval s = vs) (hx : a.eval x = vx) (hrun : AppRun t o.type vs vx r w w')
    (h : K (a.put o.dst r) w') : if Region.wanted o (yielded ops a.tmps) = true then Oper.wp Tryd.prog o a w K Q else E := by
  have hw : Region.wanted o (yielded ops a.tmps) = true := by simp [Region.wanted, hgd]
  rw [if_pos hw]
  unfold Oper.wp execOp
  simp only [ho, resolve, invoke, builtin, Sem.run_bind, Sem.run_pure, Result.andThen_ok, List.map_toArray, List.map_cons, List.map_nil, hs, hx, hrun.out]
  exact h
theorem wpList_append_run {w w' : World} {ops : Array Oper} {rest : List Oper} {o : Oper} {a : Act} {Q : Exit → Act → World → Prop} (hgd : o.guard = none) (s x : Operand) (t : TypeId)
    (ho : o.op = .call { callee := .builtin .append, args := #[s, x], argTypes := #[t, t] }) (vs vx r : Value) (hs : a.eval s = vs) (hx : a.eval x = vx) (hrun : AppRun t o.type vs vx r w w')
    (h : wpList Tryd.prog ops Q rest (a.put o.dst r) w') : wpList Tryd.prog ops Q (o :: rest) a w :=
  wpList_plain hgd fun K hK => by
    unfold Oper.wp execOp
    simp only [ho, resolve, invoke, builtin, Sem.run_bind, Sem.run_pure, Result.andThen_ok, List.map_toArray, List.map_cons, List.map_nil, hs, hx, hrun.out]
    exact hK _ _ h
theorem app_gen {t e size bytes : Nat} {z : Value} (ht : Tryd.prog.underlying t = some (.slice e)) (hinf : (Tryd.prog.info? e).map (fun i => (i.zero, i.size, i.bytes)) = some (some z, size, bytes)) (hzs : z.cells.size = size) (hsz : 0 < size) (hby : bytes ≤ 1000)
    {w : World} {Z : Nat} {v : Value} {n : Nat} {xs : List Value} (h : w.ownsRow Z e size v n xs) (a : Addr) (m c : Nat) (news : List Value) (hl : news.length = m * size) (hnews : ∀ j u, news[j]? = some u → w.cell? (a.add j) = some u)
    (h1 : ∀ u ∈ news, u.oneCell' = true) (hnm : n + m ≤ 1000000) (hz : Z ≤ w.heap.size) (ty : TypeId) :
    ∃ B cap w', AppRun t ty v (.slice (some a) m c) (.slice B (n + m) cap) w w' ∧ w'.ownsRow Z e size (.slice B (n + m) cap) (n + m) (xs ++ news) ∧ Turn (fun i => v.ownBlock = some i) w w' ∧
      ((Value.slice B (n + m) cap).ownBlock = v.ownBlock ∨ (Value.slice B (n + m) cap).ownBlock = some w.heap.size) := by
  obtain ⟨i0, hi, hz0, hz1, hz2⟩ := info_parts hinf
  obtain ⟨v', w', hr, h2, h3, _, h5⟩ := run_append_own_at (P := Tryd.prog) w Z t ty e i0 z size bytes ht hi hz0 hz1 hz2 hzs hsz v n xs h a m c news hl hnews h1 (by unfold maxLen; omega)
    (Nat.le_trans (Nat.mul_le_mul hnm hby) (by decide)) hz
  obtain ⟨B, cap, rfl⟩ := own_form h2
  exact ⟨B, cap, w', ⟨hr⟩, h2, (Turn.refl _ w).grown h3 (fun k hk => Or.inl hk), h5⟩
def ablk (A : Option Addr) : Option Nat := A.map (·.block)
theorem own_ablk (A : Option Addr) (n c : Nat) : (Value.slice A n c).ownBlock = ablk A := by cases A <;> rfl
theorem own_at {w : World} {Z : Nat} {t : TypeId} {s n : Nat} {A : Option Addr} {c : Nat} {xs : List Value} {i : Nat} (h : w.ownsRow Z t s (.slice A n c) n xs) (hi : ablk A = some i) : Z ≤ i ∧ ∃ cur, At w i (.cells cur t (0, 0)) := by
  rcases h.2 with ⟨hv, _⟩ | ⟨rb, cp, cur, hv, hb, hg, _⟩
  · injection hv with hA; subst hA; cases hi
  · injection hv with hA
    subst hA
    injection hi with hi
    subst hi
    exact ⟨hb, cur, hg⟩
theorem all_one {vs : List Value} (h : ∀ u ∈ vs, u.oneCell' = true) : vs.toArray.all (·.oneCell') = true := by simpa using h
theorem eqf_cons {P : Program} {d : Nat} {xs ys : Array Value} {f : Field} {fs : List Field} {w : World} {a b : Value} {r : Bool} (hne : f.name ≠ "_") (ha : (part f.type xs f.offset).run P w = .ok a w) (hb : (part f.type ys f.offset).run P w = .ok b w)
    (h : (Op.equalIn d f.type a b).run P w = .ok r w) : (Op.eqFields d xs ys (f :: fs)).run P w = if r then (Op.eqFields d xs ys fs).run P w else .ok false w := by
  rw [Op.eqFields, if_pos hne]
  simp only [Sem.run_bind, ha, hb, h, Result.andThen_ok]
  cases r <;> simp
theorem eqf_nil {P : Program} {d : Nat} {xs ys : Array Value} {w : World} : (Op.eqFields d xs ys []).run P w = .ok true w := rfl
theorem Row.no {w w' : World} {A : Option Addr} {xs : List Value} (h : Row w A xs) (t : Turn No w w') : Row w' A xs := h.turn t fun _ _ _ h => h
theorem own_typed {w : World} {Z Z2 n n2 : Nat} {t t2 : TypeId} {s s2 : Nat} {v : Value} {B : Option Addr} {c k : Nat} {xs ys : List Value} (h : w.ownsRow Z t s (.slice B n c) n xs) (h2 : w.ownsRow Z2 t2 s2 v n2 ys) (ht : t ≠ t2) (hk : v.ownBlock = some k) : ¬ (Value.slice B n c).ownBlock = some k := fun e => by
  rw [own_ablk] at e
  obtain ⟨_, cur, hc⟩ := own_at h e
  rcases h2.2 with ⟨hv0, _⟩ | ⟨g', c', cur', hv0, _, hg', _⟩
  · rw [hv0] at hk; cases hk
  · rw [hv0] at hk
    injection hk with hk
    subst hk
    have := hc.eq hg'
    injection this with _ e2 _
    exact ht e2
theorem turn4 (w : World) (g a b c d : Nat) (p q r s : Value) : Turn (fun k => k = g) w ((((w.setCell ⟨g, a, none⟩ p).setCell ⟨g, b, none⟩ q).setCell ⟨g, c, none⟩ r).setCell ⟨g, d, none⟩ s) :=
  (((Turn.set1 w g a p).trans (Turn.set1 _ g b q)).trans (Turn.set1 _ g c r)).trans (Turn.set1 _ g d s)
theorem at_put4 {w : World} {g : Nat} {x0 x1 x2 x3 : Value} (h : At w g (.cells #[x0, x1, x2, x3] 155 (0, 0))) (y0 y1 y2 y3 : Value) : At ((((w.setCell ⟨g, 0, none⟩ y0).setCell ⟨g, 1, none⟩ y1).setCell ⟨g, 2, none⟩ y2).setCell ⟨g, 3, none⟩ y3) g (.cells #[y0, y1, y2, y3] 155 (0, 0)) := by
  simpa using (((h.set 0 y0).set 1 y1).set 2 y2).set 3 y3
theorem own_from {w : World} {Z Z' : Nat} {t : TypeId} {s n : Nat} {v : Value} {xs : List Value} (h : w.ownsRow Z t s v n xs) (hz : Z' ≤ Z) : w.ownsRow Z' t s v n xs := by
  refine ⟨h.1, ?_⟩
  rcases h.2 with hn | ⟨g, cap, cur, rfl, hb, r⟩
  · exact .inl hn
  · exact .inr ⟨g, cap, cur, rfl, Nat.le_trans hz hb, r⟩
theorem own_neG {w : World} {Z n : Nat} {v : Value} {xs : List Value} {t0 : TypeId} {s : Nat} (h : w.ownsRow Z t0 s v n xs) {g : Nat} {c : Array Value} {t : TypeId} {f : Nat × Nat} (hg : At w g (.cells c t f)) (ht : t ≠ t0) : v.ownBlock ≠ some g := by
  intro e
  rcases h.2 with ⟨hv, _⟩ | ⟨g', c', cur, hv, _, hg', _⟩
  · rw [hv] at e; cases e
  · rw [hv] at e
    injection e with e
    subst e
    have := hg.eq hg'
    injection this with _ e2 _
    exact ht e2
theorem own_capN {w : World} {Z : Nat} {e size : Nat} {B : Option Addr} {n c : Nat} {xs : List Value} (h : w.ownsRow Z e size (.slice B n c) n xs) : n ≤ c := by
  rcases h.2 with ⟨_, h⟩ | ⟨g, cap, cur, hv, _, _, hc, _⟩
  · omega
  · injection hv with _ _ h3
    omega
theorem own_set {w : World} {Z g n c s : Nat} {t : TypeId} {xs : List Value} (h : w.ownsRow Z t s (.slice (some ⟨g, 0, none⟩) n c) n xs) (o : Nat) (v : Value) : (w.setCell ⟨g, o, none⟩ v).ownsRow Z t s (.slice (some ⟨g, 0, none⟩) n c) n (xs.set o v) := by
  obtain ⟨hl, ⟨hv, hn⟩ | ⟨g', cp, cur, hv, hb, hg, hn, hc, hs, ht⟩⟩ := h
  · cases hv
  · injection hv with hA _ hcp
    injection hA with hA
    injection hA with hA
    subst hA hcp
    have hat : At w g (.cells cur t (0, 0)) := hg
    exact ⟨by rw [List.length_set]; exact hl, .inr ⟨g, c, cur.setIfInBounds o v, rfl, hb, hat.set o v, hn, hc, by simpa using hs, by rw [← ht]; simp [List.take_set]⟩⟩
def spl : List Value → Nat → List Value → List Value
  | xs, _, [] => xs
  | xs, o, v :: r => spl (xs.set o v) (o + 1) r
theorem own_sets {Z g n c s : Nat} {t : TypeId} : ∀ (vs : List Value) (o : Nat) (w : World) (xs : List Value), w.ownsRow Z t s (.slice (some ⟨g, 0, none⟩) n c) n xs → (w.setCells g o vs).ownsRow Z t s (.slice (some ⟨g, 0, none⟩) n c) n (spl xs o vs)
  | [], _, _, _, h => h
  | v :: r, o, w, xs, h => own_sets r (o + 1) _ _ (own_set h o v)
theorem spl_mid : ∀ (vs P Q R : List Value), Q.length = vs.length → spl (P ++ Q ++ R) P.length vs = P ++ vs ++ R
  | [], P, Q, R, h => by
    have : Q = [] := List.eq_nil_of_length_eq_zero h
    subst this
    rfl
  | v :: r, P, [], R, h => by cases h
  | v :: r, P, q :: Q, R, h => by
    have e : (P ++ q :: Q ++ R).set P.length v = (P ++ [v]) ++ Q ++ R := by simp
    have ih := spl_mid r (P ++ [v]) Q R (by simpa using h)
    show spl ((P ++ q :: Q ++ R).set P.length v) (P.length + 1) r = _
    rw [e]
    rw [List.length_append] at ih
    rw [show P.length + 1 = P.length + [v].length from rfl, ih]
    simp
theorem turn_sets (g : Nat) : ∀ (vs : List Value) (o : Nat) (w : World), Turn (fun k => k = g) w (w.setCells g o vs)
  | [], _, w => Turn.refl _ w
  | v :: r, o, w => (Turn.set1 w g o v).trans (turn_sets g r (o + 1) _)
theorem there_own {w : World} {Z g n c s : Nat} {t : TypeId} {xs : List Value} (h : w.ownsRow Z t s (.slice (some ⟨g, 0, none⟩) n c) n xs) (o m : Nat) (hm : o + m ≤ xs.length) : w.there g o m := fun j hj => by
  obtain ⟨v, hv⟩ : ∃ v, xs[o + j]? = some v := ⟨_, List.getElem?_eq_getElem (by omega)⟩
  obtain ⟨b, o2, hA, _, hc⟩ := row_of_own h (o + j) v hv
  injection hA with hA
  injection hA with e1 e2
  subst e1 e2
  rw [Nat.zero_add] at hc
  refine ⟨by rw [hc]; rfl, ?_⟩
  obtain ⟨_, cur, hat⟩ := own_at (i := g) h rfl
  exact hat.thawed _
theorem no_of {w0 W W' : World} {X : Nat → Prop} (h : Turn No w0 W) (t : Turn X W W') (hX : ∀ i, X i → w0.heap.size ≤ i) : Turn No w0 W' := h.then t fun i hi hx => by have := hX i hx; omega
def kcs (K : List ByteArray) : List Value := K.map .string
theorem kcs_length (K : List ByteArray) : (kcs K).length = K.length := by simp [kcs]
theorem kcs_at {K : List ByteArray} {j : Nat} {k : ByteArray} (h : K[j]? = some k) : (kcs K)[j]? = some (.string k) := by simp [kcs, h]
theorem kcs_append (K L : List ByteArray) : kcs (K ++ L) = kcs K ++ kcs L := by simp [kcs]
theorem kcs_get {w : World} {B : Option Addr} {K : List ByteArray} (h : Row w B (kcs K)) {j : Nat} {k : ByteArray} (hj : K[j]? = some k) : ∃ b o, B = some ⟨b, o, none⟩ ∧ w.cell? ⟨b, o + j, none⟩ = some (.string k) := by
  obtain ⟨b, o, hA, _, hc⟩ := h j _ (kcs_at hj)
  exact ⟨b, o, hA, hc⟩
theorem infw9 : (Tryd.prog.info? 9).map (fun i => (i.zero, i.size, i.bytes)) = some (some (.string ⟨#[]⟩), 1, 16) := by kernel_rfl
structure Ks (w0 w : World) (K : List ByteArray) (B : Option Addr) (c : Nat) : Prop where
  tu : Turn No w0 w
  row : w.ownsRow w0.heap.size 9 1 (.slice B K.length c) K.length (kcs K)
theorem Ks.no {w0 w w' : World} {K : List ByteArray} {B : Option Addr} {c : Nat} (h : Ks w0 w K B c) (t : Turn No w w') : Ks w0 w' K B c := ⟨h.tu.trans t, own_grown h.row t fun _ _ h => h⟩
theorem Ks.append {w0 w : World} {K : List ByteArray} {B : Option Addr} {c : Nat} (h : Ks w0 w K B c) (hl : K.length < 1000000) (k : ByteArray) :
    ∃ B' c' w', AppRun 74 74 (.slice B K.length c) (.slice (some ⟨w.heap.size, 0, none⟩) 1 1) (.slice B' (K.length + 1) c') (w.alloc (.cells #[.string k] 9)) w' ∧ Ks w0 w' (K ++ [k]) B' c' := by
  have h2 := h.no ((Turn.refl No w).alloc (.cells #[.string k] 9))
  have hn := At.new w (.cells #[.string k] 9)
  obtain ⟨B', c', w', q, ho, ht, hB⟩ := app_gen Tryd.underlying74 infw9 rfl (by decide) (by decide) h2.row ⟨w.heap.size, 0, none⟩ 1 1 [.string k] rfl
    (fun j u hj => by rw [Addr.add_lit, Nat.zero_add, hn.cell]; simpa using hj) (by intro u hu; simp at hu; subst hu; rfl) (by omega) h2.tu.size 74
  refine ⟨B', c', w', q, h2.tu.then ht fun k hk hb => ?_, ?_⟩
  · rw [own_ablk] at hb
    have := (own_at h2.row hb).1
    omega
  · have e : kcs (K ++ [k]) = kcs K ++ [.string k] := by simp [kcs]
    rw [List.length_append, e]
    exact ho
end Go.Proofs.YtfplnobnmgbgoaaDoor
namespace Go.Proofs.YtfplnobnmgbgoaaDoor
open Go.RowKit Go.Lib
set_option linter.unusedVariables false
set_option maxRecDepth 20000
set_option maxRecDepth 20000
set_option linter.unusedSimpArgs false

/-- Keys that rise. -/
def Rk (K : List ByteArray) : Prop := K.Pairwise kl
/-- Is it one of them? -/
def inK (K : List ByteArray) (k : ByteArray) : Bool := K.any fun x => decide (x = k)
theorem inK_iff {K : List ByteArray} {k : ByteArray} : inK K k = true ↔ k ∈ K := by
  unfold inK
  rw [List.any_eq_true]
  exact ⟨fun ⟨x, h1, h2⟩ => of_decide_eq_true h2 ▸ h1, fun h => ⟨k, h, decide_eq_true rfl⟩⟩
theorem inK_no {K : List ByteArray} {k : ByteArray} : inK K k = false ↔ k ∉ K := by rw [← inK_iff, Bool.not_eq_true]
/-- A key's place: how many are less. -/
def plc (K : List ByteArray) (k : ByteArray) : Nat := (K.filter fun x => decide (kl x k)).length
/-- The kid's place: how many are not above. -/
def kix (K : List ByteArray) (k : ByteArray) : Nat := (K.filter fun x => !decide (kl k x)).length
theorem cut_down {p : ByteArray → Bool} (hp : ∀ x y, kl x y → p y = true → p x = true) : ∀ {K : List ByteArray}, Rk K → K.take (K.filter p).length = K.filter p ∧ K.drop (K.filter p).length = K.filter (fun x => !p x)
  | [], _ => ⟨rfl, rfl⟩
  | x :: t, h => by
    have ht : Rk t := List.Pairwise.of_cons h
    have ih := cut_down hp ht
    cases hx : p x with
    | true =>
      rw [List.filter_cons_of_pos hx, List.filter_cons_of_neg (by simp [hx]), List.length_cons, List.take_succ_cons, List.drop_succ_cons, ih.1]
      exact ⟨rfl, ih.2⟩
    | false =>
      have hall : ∀ y ∈ t, p y = false := fun y hy => by
        cases hb : p y with
        | false => rfl
        | true => rw [hp x y (List.rel_of_pairwise_cons h hy) hb] at hx; cases hx
      have e1 : t.filter p = [] := List.filter_eq_nil_iff.2 fun y hy => by rw [hall y hy]; decide
      have e2 : t.filter (fun x => !p x) = t := List.filter_eq_self.2 fun y hy => by rw [hall y hy]; rfl
      rw [List.filter_cons_of_neg (by simp [hx]), List.filter_cons_of_pos (by simp [hx]), e1, e2]
      exact ⟨rfl, rfl⟩
theorem kix_down (k : ByteArray) : ∀ x y, kl x y → (!decide (kl k y)) = true → (!decide (kl k x)) = true := fun x y hxy hy => by
  simp only [Bool.not_eq_true', decide_eq_false_iff_not] at hy ⊢
  exact fun hk => hy (kl_trans hk hxy)
section
variable {K : List ByteArray} (h : Rk K) (k : ByteArray)
include h
theorem take_plc : K.take (plc K k) = K.filter fun x => decide (kl x k) := (cut_down (p := fun x => decide (kl x k)) (fun x y hxy hy => decide_eq_true (kl_trans hxy (of_decide_eq_true hy))) h).1
theorem drop_plc : K.drop (plc K k) = K.filter fun x => !decide (kl x k) := (cut_down (p := fun x => decide (kl x k)) (fun x y hxy hy => decide_eq_true (kl_trans hxy (of_decide_eq_true hy))) h).2
theorem take_kix : K.take (kix K k) = K.filter fun x => !decide (kl k x) := (cut_down (p := fun x => !decide (kl k x)) (kix_down k) h).1
theorem drop_kix : K.drop (kix K k) = K.filter fun x => decide (kl k x) := by
  have := (cut_down (p := fun x => !decide (kl k x)) (kix_down k) h).2
  rw [kix, this]
  exact List.filter_congr fun x _ => by simp
end
theorem plc_le (K : List ByteArray) (k : ByteArray) : plc K k ≤ K.length := List.length_filter_le ..
theorem kix_le (K : List ByteArray) (k : ByteArray) : kix K k ≤ K.length := List.length_filter_le ..
theorem kix_append (A B : List ByteArray) (k : ByteArray) : kix (A ++ B) k = kix A k + kix B k := by unfold kix; rw [List.filter_append, List.length_append]
theorem plc_append (A B : List ByteArray) (k : ByteArray) : plc (A ++ B) k = plc A k + plc B k := by unfold plc; rw [List.filter_append, List.length_append]
theorem kix_cons (x : ByteArray) (B : List ByteArray) (k : ByteArray) : kix (x :: B) k = (if kl k x then 0 else 1) + kix B k := by
  rw [show x :: B = [x] ++ B from rfl, kix_append]
  congr 1
  unfold kix
  by_cases h : kl k x <;> simp [h]
theorem plc_cons (x : ByteArray) (B : List ByteArray) (k : ByteArray) : plc (x :: B) k = (if kl x k then 1 else 0) + plc B k := by
  rw [show x :: B = [x] ++ B from rfl, plc_append]
  congr 1
  unfold plc
  by_cases h : kl x k <;> simp [h]
theorem kix_all {A : List ByteArray} {k : ByteArray} (h : ∀ x ∈ A, ¬ kl k x) : kix A k = A.length := by
  unfold kix
  rw [List.filter_eq_self.2 fun x hx => by simp [h x hx]]
theorem kix_none {A : List ByteArray} {k : ByteArray} (h : ∀ x ∈ A, kl k x) : kix A k = 0 := by
  unfold kix
  rw [List.filter_eq_nil_iff.2 fun x hx => by simp [h x hx]]
  rfl
/-- The kid's place is the key's, or the one behind it. -/
theorem kix_plc {k : ByteArray} : ∀ {K : List ByteArray}, Rk K → kix K k = plc K k + if inK K k = true then 1 else 0
  | [], _ => rfl
  | x :: t, h => by
    have ih := kix_plc (k := k) (K := t) (List.Pairwise.of_cons h)
    have hx : ∀ y ∈ t, kl x y := fun y hy => List.rel_of_pairwise_cons h hy
    rw [kix_cons, plc_cons, ih]
    rcases kl_tri k x with h1 | h1 | h1
    · have h2 : ¬ k ∈ x :: t := fun hm => by
        rcases List.mem_cons.1 hm with e | e
        · exact kl_ne h1 e
        · exact kl_irrefl _ (kl_trans h1 (hx k e))
      have h3 : ¬ k ∈ t := fun e => h2 (List.mem_cons_of_mem _ e)
      rw [if_pos h1, if_neg (kl_asymm h1), if_neg (by rw [inK_iff]; exact h3), if_neg (by rw [inK_iff]; exact h2)]
      omega
    · subst h1
      have h3 : ¬ k ∈ t := fun e => kl_irrefl _ (hx k e)
      rw [if_neg (kl_irrefl k), if_neg (kl_irrefl k), if_neg (by rw [inK_iff]; exact h3), if_pos (inK_iff.2 List.mem_cons_self)]
      omega
    · rw [if_neg (kl_asymm h1), if_pos h1]
      by_cases h3 : k ∈ t
      · rw [if_pos (inK_iff.2 h3), if_pos (inK_iff.2 (List.mem_cons_of_mem _ h3))]; omega
      · have h2 : ¬ k ∈ x :: t := fun hm => by
          rcases List.mem_cons.1 hm with e | e
          · exact kl_ne h1 e.symm
          · exact h3 e
        rw [if_neg (by rw [inK_iff]; exact h3), if_neg (by rw [inK_iff]; exact h2)]; omega
/-- Is it there? What stands in its place tells. -/
theorem plc_mem {k : ByteArray} : ∀ {K : List ByteArray}, Rk K → (K[plc K k]? = some k ↔ k ∈ K)
  | [], _ => by simp
  | x :: t, h => by
    have ih := plc_mem (k := k) (K := t) (List.Pairwise.of_cons h)
    have hx : ∀ y ∈ t, kl x y := fun y hy => List.rel_of_pairwise_cons h hy
    rw [plc_cons]
    by_cases h1 : kl x k
    · rw [if_pos h1, Nat.add_comm, List.getElem?_cons_succ, ih, List.mem_cons]
      exact ⟨.inr, fun hm => hm.elim (fun e => absurd e.symm (kl_ne h1)) fun e => e⟩
    · have h0 : plc t k = 0 := by
        unfold plc
        rw [List.filter_eq_nil_iff.2 fun y hy => by
          simp only [decide_eq_true_eq]
          exact fun hy2 => h1 (kl_trans (hx y hy) hy2)]
        rfl
      rw [if_neg h1, h0]
      simp only [Nat.add_zero, List.getElem?_cons_zero, Option.some.injEq, List.mem_cons]
      refine ⟨fun e => .inl e.symm, fun hm => hm.elim (fun e => e.symm) fun e => absurd (hx k e) h1⟩
/-! One more. -/
def ins {α : Type} (L : List α) (i : Nat) (x : α) : List α := L.take i ++ x :: L.drop i
theorem ins_length {α : Type} (L : List α) {i : Nat} (hi : i ≤ L.length) (x : α) : (ins L i x).length = L.length + 1 := by
  unfold ins
  rw [List.length_append, List.length_cons, List.length_take, List.length_drop]
  omega
theorem ins_low {α : Type} (L : List α) {i j : Nat} (hi : i ≤ L.length) (x : α) (h : j < i) : (ins L i x)[j]? = L[j]? := by
  unfold ins
  rw [List.getElem?_append_left (by rw [List.length_take]; omega), List.getElem?_take, if_pos h]
theorem ins_at {α : Type} (L : List α) {i : Nat} (hi : i ≤ L.length) (x : α) : (ins L i x)[i]? = some x := by
  unfold ins
  have : (L.take i).length = i := by rw [List.length_take]; omega
  rw [List.getElem?_append_right (by omega), this, Nat.sub_self]
  rfl
theorem ins_high {α : Type} (L : List α) {i j : Nat} (hi : i ≤ L.length) (x : α) (h : i ≤ j) : (ins L i x)[j + 1]? = L[j]? := by
  unfold ins
  have e : (L.take i).length = i := by rw [List.length_take]; omega
  rw [List.getElem?_append_right (by omega), e, show j + 1 - i = (j - i) + 1 by omega, List.getElem?_cons_succ, List.getElem?_drop, show i + (j - i) = j by omega]
theorem mem_ins {α : Type} {L : List α} {i : Nat} {x y : α} : y ∈ ins L i x ↔ y = x ∨ y ∈ L := by
  unfold ins
  rw [List.mem_append, List.mem_cons]
  have h : y ∈ L ↔ y ∈ L.take i ∨ y ∈ L.drop i := by
    conv => lhs; rw [← List.take_append_drop i L]
    exact List.mem_append
  rw [h]
  constructor
  · rintro (h | h | h)
    · exact .inr (.inl h)
    · exact .inl h
    · exact .inr (.inr h)
  · rintro (h | h | h)
    · exact .inr (.inl h)
    · exact .inl h
    · exact .inr (.inr h)
theorem rk_ins {K : List ByteArray} (h : Rk K) {k : ByteArray} (hk : k ∉ K) : Rk (ins K (plc K k) k) := by
  have hd : ∀ x ∈ K, ¬ kl x k → kl k x := fun x hx hn => by
    rcases kl_tri k x with h1 | h1 | h1
    · exact h1
    · exact absurd (h1 ▸ hx) hk
    · exact absurd h1 hn
  unfold ins Rk
  rw [take_plc h, drop_plc h, List.pairwise_append]
  refine ⟨List.Pairwise.sublist List.filter_sublist h, ?_, fun a ha b hb => ?_⟩
  · rw [List.pairwise_cons]
    refine ⟨fun b hb => ?_, List.Pairwise.sublist List.filter_sublist h⟩
    obtain ⟨h1, h2⟩ := List.mem_filter.1 hb
    exact hd b h1 (by simpa using h2)
  · obtain ⟨h1, h2⟩ := List.mem_filter.1 ha
    have h2 := of_decide_eq_true h2
    rcases List.mem_cons.1 hb with e | e
    · rw [e]; exact h2
    · obtain ⟨h3, h4⟩ := List.mem_filter.1 e
      exact kl_trans h2 (hd b h3 (by simpa using h4))
theorem kix_ins (K : List ByteArray) (i : Nat) (x q : ByteArray) : kix (ins K i x) q = kix K q + if kl q x then 0 else 1 := by
  unfold ins
  have h : kix K q = kix (K.take i) q + kix (K.drop i) q := by rw [← kix_append, List.take_append_drop]
  rw [kix_append, kix_cons, h]
  omega
/-- A kid that is added is led to from its key up to the next one. -/
theorem kid_add {α : Type} {K : List ByteArray} (h : Rk K) {sep : ByteArray} (hs : sep ∉ K) {L : List α} (hl : L.length = K.length + 1) (kid : α) (q : ByteArray) :
    (ins L (plc K sep + 1) kid)[kix (ins K (plc K sep) sep) q]? = if ¬ kl q sep ∧ ∀ x ∈ K, kl sep x → kl q x then some kid else L[kix K q]? := by
  have hp := plc_le K sep
  rw [kix_ins]
  by_cases hq : kl q sep
  · rw [if_pos hq, if_neg (fun h => h.1 hq), Nat.add_zero]
    refine ins_low L (by omega) kid ?_
    have : kix K q ≤ plc K sep := by
      unfold kix plc
      refine List.Sublist.length_le ?_
      have : (K.filter fun x => !decide (kl q x)) = (K.filter fun x => decide (kl x sep)).filter fun x => !decide (kl q x) := by
        rw [List.filter_filter]
        refine List.filter_congr fun x hx => ?_
        by_cases h1 : kl q x
        · simp [h1]
        · have : kl x sep := kl_le_lt h1 hq
          simp [h1, this]
      rw [this]
      exact List.filter_sublist
    omega
  · rw [if_neg hq]
    have hsplit : kix K q = plc K sep + kix (K.drop (plc K sep)) q := by
      have e : kix K q = kix (K.take (plc K sep)) q + kix (K.drop (plc K sep)) q := by rw [← kix_append, List.take_append_drop]
      rw [e, kix_all (A := K.take (plc K sep)) fun x hx => by
        rw [take_plc h] at hx
        have := of_decide_eq_true (List.mem_filter.1 hx).2
        exact fun hk => hq (kl_trans hk this), List.length_take, Nat.min_eq_left hp]
    have hgt : ∀ x ∈ K.drop (plc K sep), x ∈ K ∧ kl sep x := fun x hx => by
      rw [drop_plc h] at hx
      obtain ⟨h1, h2⟩ := List.mem_filter.1 hx
      refine ⟨h1, ?_⟩
      rcases kl_tri sep x with h3 | h3 | h3
      · exact h3
      · exact absurd (h3 ▸ h1) hs
      · simp [h3] at h2
    by_cases hn : ∀ x ∈ K, kl sep x → kl q x
    · rw [if_pos ⟨hq, hn⟩, hsplit, kix_none fun x hx => hn x (hgt x hx).1 (hgt x hx).2, Nat.add_zero]
      exact ins_at L (by omega) kid
    · rw [if_neg (fun h => hn h.2)]
      refine ins_high L (by omega) kid ?_
      rw [hsplit]
      have : 0 < kix (K.drop (plc K sep)) q := by
        refine Nat.pos_of_ne_zero fun h0 => hn fun x hx hsx => ?_
        have hxd : x ∈ K.drop (plc K sep) := by
          rw [drop_plc h]
          exact List.mem_filter.2 ⟨hx, by simp [kl_asymm hsx]⟩
        unfold kix at h0
        have := List.filter_eq_nil_iff.1 (List.eq_nil_of_length_eq_zero h0) x hxd
        simpa using this
      omega
/-! Halves. -/
section
variable {K : List ByteArray} (h : Rk K) {m : Nat} {sep : ByteArray} (hm : K[m]? = some sep)
include h hm
theorem half_cut : K = K.take m ++ sep :: K.drop (m + 1) ∧ (∀ x ∈ K.take m, kl x sep) ∧ ∀ x ∈ K.drop (m + 1), kl sep x := by
  have e : K = K.take m ++ sep :: K.drop (m + 1) := by
    obtain ⟨hl, rfl⟩ := List.getElem?_eq_some_iff.1 hm
    rw [List.getElem_cons_drop, List.take_append_drop]
  have hp : (K.take m ++ sep :: K.drop (m + 1)).Pairwise kl := by rw [← e]; exact h
  rw [List.pairwise_append, List.pairwise_cons] at hp
  exact ⟨e, fun x hx => hp.2.2 x hx sep List.mem_cons_self, hp.2.1.1⟩
theorem half_left (q : ByteArray) (hq : kl q sep) : kix (K.take m) q = kix K q ∧ kix K q ≤ m := by
  obtain ⟨e, h1, h2⟩ := half_cut h hm
  have : kix K q = kix (K.take m) q := by
    conv => lhs; rw [e]
    rw [kix_append, kix_none (A := sep :: K.drop (m + 1)) fun x hx => (List.mem_cons.1 hx).elim (fun e => e ▸ hq) fun hx => kl_trans hq (h2 x hx), Nat.add_zero]
  refine ⟨this.symm, ?_⟩
  rw [this]
  have := kix_le (K.take m) q
  rw [List.length_take] at this
  omega
theorem half_right (q : ByteArray) (hq : ¬ kl q sep) : kix (K.drop (m + 1)) q + (m + 1) = kix K q := by
  obtain ⟨e, h1, h2⟩ := half_cut h hm
  have hl := (List.getElem?_eq_some_iff.1 hm).1
  conv => rhs; rw [e]
  rw [kix_append, kix_cons, if_neg hq, kix_all (A := K.take m) fun x hx hk => hq (kl_trans hk (h1 x hx)), List.length_take]
  omega
/-- The kids that the halves lead to. -/
theorem half_kid {α : Type} {L : List α} (q : ByteArray) : (kl q sep → (L.take (m + 1))[kix (K.take m) q]? = L[kix K q]?) ∧ (¬ kl q sep → (L.drop (m + 1))[kix (K.drop (m + 1)) q]? = L[kix K q]?) := by
  refine ⟨fun hq => ?_, fun hq => ?_⟩
  · obtain ⟨h1, h2⟩ := half_left h hm q hq
    rw [h1, List.getElem?_take, if_pos (by omega)]
  · have h1 := half_right h hm q hq
    rw [List.getElem?_drop, show m + 1 + kix (K.drop (m + 1)) q = kix K q by omega]
omit hm in
theorem half_rk : Rk (K.take m) ∧ Rk (K.drop m) ∧ Rk (K.drop (m + 1)) := ⟨List.Pairwise.sublist (List.take_sublist _ _) h, List.Pairwise.sublist (List.drop_sublist _ _) h, List.Pairwise.sublist (List.drop_sublist _ _) h⟩
end
/-! Leaves: as pairs. -/
theorem asc_keys {l : List Pr} : Asc l ↔ Rk (l.map Pr.k) := by unfold Asc Rk; rw [List.pairwise_map]
theorem pairs_of : ∀ {K V : List ByteArray}, V.length = K.length → ∃ l : List Pr, l.map Pr.k = K ∧ l.map Pr.v = V
  | [], [], _ => ⟨[], rfl, rfl⟩
  | k :: K, v :: V, h => by
    obtain ⟨l, h1, h2⟩ := pairs_of (K := K) (V := V) (by simpa using h)
    exact ⟨⟨k, v⟩ :: l, by simp [h1], by simp [h2]⟩
  | [], _ :: _, h => by simp at h
  | _ :: _, [], h => by simp at h
/-- What a leaf has for a key stands in the key's place. -/
theorem get_plc {k : ByteArray} : ∀ {l : List Pr}, Asc l → getL l k = if inK (l.map Pr.k) k = true then (l.map Pr.v)[plc (l.map Pr.k) k]? else none
  | [], _ => rfl
  | p :: t, h => by
    have ih := get_plc (k := k) (l := t) (List.Pairwise.of_cons h)
    have hp : ∀ q ∈ t, kl p.k q.k := fun q hq => List.rel_of_pairwise_cons h hq
    have hg : getL (p :: t) k = if p.k = k then some p.v else getL t k := by
      unfold getL
      by_cases e : p.k = k
      · rw [List.find?_cons_of_pos (by simp [e]), if_pos e]; rfl
      · rw [List.find?_cons_of_neg (by simp [e]), if_neg e]
    rw [hg, List.map_cons, List.map_cons, plc_cons]
    by_cases e : p.k = k
    · subst e
      have h0 : plc (t.map Pr.k) p.k = 0 := by
        unfold plc
        rw [List.filter_eq_nil_iff.2 fun y hy => by
          obtain ⟨q, hq, rfl⟩ := List.mem_map.1 hy
          simp [kl_asymm (hp q hq)]]
        rfl
      rw [if_pos rfl, if_pos (inK_iff.2 List.mem_cons_self), if_neg (kl_irrefl _), h0]
      rfl
    · rw [if_neg e, ih]
      by_cases hm : k ∈ t.map Pr.k
      · rw [if_pos (inK_iff.2 hm), if_pos (inK_iff.2 (List.mem_cons_of_mem _ hm))]
        obtain ⟨q, hq, rfl⟩ := List.mem_map.1 hm
        rw [if_pos (hp q hq), Nat.add_comm, List.getElem?_cons_succ]
      · rw [if_neg (by rw [inK_iff]; exact hm), if_neg (by rw [inK_iff]; exact fun h => (List.mem_cons.1 h).elim (fun e2 => e e2.symm) hm)]
/-- Two puts in either row; a put and a deletion. -/
theorem put_comm {l : List Pr} (h : Asc l) {a b : ByteArray} (x y : ByteArray) (hab : a ≠ b) : putL (putL l a x) b y = putL (putL l b y) a x :=
  ((h.put _ _).put _ _).ext ((h.put _ _).put _ _) fun q => by
    rw [get_put, get_put, get_put, get_put]
    by_cases h1 : q = b
    · subst h1; rw [if_pos rfl, if_neg (fun e => hab e.symm), if_pos rfl]
    · rw [if_neg h1]
      by_cases h2 : q = a
      · rw [if_pos h2, if_pos h2]
      · rw [if_neg h2, if_neg h2, if_neg h1]
theorem put_put {l : List Pr} (h : Asc l) (a x : ByteArray) : putL (putL l a x) a x = putL l a x :=
  ((h.put _ _).put _ _).ext (h.put _ _) fun q => by
    rw [get_put, get_put]
    by_cases h1 : q = a
    · rw [if_pos h1, if_pos h1]
    · rw [if_neg h1, if_neg h1]
theorem del_put {l : List Pr} (h : Asc l) (a x : ByteArray) : delL (putL l a x) a = delL l a :=
  ((h.put _ _).del _).ext (h.del _) fun q => by
    rw [get_del, get_del, get_put]
    by_cases h1 : q = a
    · rw [if_pos h1, if_pos h1]
    · rw [if_neg h1, if_neg h1, if_neg h1]
theorem del_none {l : List Pr} (h : Asc l) {a : ByteArray} (hn : getL l a = none) : delL l a = l :=
  (h.del _).ext h fun q => by
    rw [get_del]
    by_cases h1 : q = a
    · rw [if_pos h1, h1, hn]
    · rw [if_neg h1]
end Go.Proofs.YtfplnobnmgbgoaaDoor
