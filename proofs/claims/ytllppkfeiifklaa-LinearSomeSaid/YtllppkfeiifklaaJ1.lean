/-
  The contract of stringslite.Clone at this translation, by one application of the library; no condition but the size.
  Plain facts on lists of bytes: the order that strings.Compare tells, and how many bytes two lists have alike from the beginning on. No condition.
  Words on memory: worlds that part in some blocks alone; a block known whole.
  The map as plain data: pairs whose keys rise; what it has, what a write makes of it.
  strings.Clone, clonePair, and the functions that compare pairs: what they give, and that they make new memory alone.
-/
import Derived.Shelf.LaysM
import Derived.Lib.Bytealg
import Derived.WalkKit
import Derived.Shelf.Strconv.Clone
import Derived.Test.YtllppkfeiifklaaProg
import Derived.Below
import Derived.Laws.Rows
import Derived.Deep.Draws
import Derived.Lib.Hide
import Derived.Laws.AppendOwn
import Derived.WalkSpells
import Derived.WalkLawsBesides
import Derived.Deep.QuietTactic
import Derived.Deep.RegionHeld3
import Derived.BigQuiet
import Derived.Deep.Cut
import Derived.Deep.CutBlock
import Derived.Laws.ResultCell
namespace Go.Proofs
open Go.Shelf
def Try.laysM316_ren : Go.Shelf.Ren := ⟨fun | 316 => 101 | n => n, fun | 9 => 9 | 3 => 3 | 4 => 4 | 37 => 137 | 0 => 0 | 127 => 138 | 5 => 5 | n => n, fun | n => n⟩
theorem Try.laysM316 : Go.Proofs.LaysM.n316 Try.prog Try.laysM316_ren := {
  mixed := by kernel_rfl
  f316 := Try.func101.trans (congrArg some (by kernel_rfl))
  t0 := Try.underlying0
  a0 := Try.isAgg0
  z0 := Try.sizeOf0
  v0 := Try.zeroValue0
  t3 := Try.underlying3
  a3 := Try.isAgg3
  z3 := Try.sizeOf3
  v3 := Try.zeroValue3
  t4 := Try.underlying4
  a4 := Try.isAgg4
  z4 := Try.sizeOf4
  v4 := Try.zeroValue4
  t9 := Try.underlying9
  a9 := Try.isAgg9
  z9 := Try.sizeOf9
  v9 := Try.zeroValue9
  t37 := Try.underlying137
  a37 := Try.isAgg137
  z37 := Try.sizeOf137
  v37 := Try.zeroValue137
  t127 := Try.underlying138
  a127 := Try.isAgg138
  z127 := Try.sizeOf138
  v127 := Try.zeroValue138
  t5 := Try.underlying5
  a5 := Try.isAgg5
  z5 := Try.sizeOf5
  v5 := Try.zeroValue5
  i0 := by kernel_rfl
  i3 := by kernel_rfl
  i4 := by kernel_rfl
  i5 := by kernel_rfl
  i9 := by kernel_rfl
  i37 := by kernel_rfl
  i127 := by kernel_rfl }
open Go.RowKit in
theorem Try.stringslite_Clone (s : ByteArray) (w : World) (hlim : s.size ≤ 281474976710656) :
    Calls Try.prog 101 #[.string s] w fun e w' => e = .returned (.string s) ∧ Below w.heap.size w w' := Any.stringslite_Clone Try.laysM316 s w hlim
open Go.RowKit in
set_option maxHeartbeats 1000000 in
set_option maxRecDepth 100000 in
theorem Try.bytealg_CompareString (a b : ByteArray) (w : World) :
    Calls Try.prog 91 #[.string a, .string b] w fun e w' => e = .returned (.int .i64 (Lib.compareBytes a.data.toList b.data.toList)) ∧ w' = w := by
  go_enter Try.func91, Try.ntmps91
  go_wp2
  rw [run_callFunc_extern Try.func106 (by kernel_rfl) (by kernel_rfl) (by kernel_rfl) (e := Extern.BytealgCompare.compare) (by kernel_rfl), Lib.run_compareString]
  simp only [Result.andThen]
  rw [Oper.upon_value]
  go_wp2
  go_ret
  exact ⟨rfl, rfl⟩
open Go.RowKit in
set_option maxHeartbeats 1000000 in
theorem Try.strings_Compare (a b : ByteArray) (w : World) :
    Calls Try.prog 60 #[.string a, .string b] w fun e w' => e = .returned (.int .i64 (Lib.compareBytes a.data.toList b.data.toList)) ∧ w' = w := by
  go_enter Try.func60, Try.ntmps60
  go_wp2_with (go_at_call 91; refine (Try.bytealg_CompareString _ _ _).mono ?_; rintro e w' ⟨rfl, rfl⟩)
  go_ret
  exact ⟨rfl, rfl⟩
end Go.Proofs
namespace Go.Proofs.Ytllppkfeiifklaa.Math
open Go

abbrev cmp (a b : List UInt8) : Int := Lib.compareBytes a b

/-- How many bytes two lists have alike from the beginning on. -/
def com : List UInt8 → List UInt8 → Nat
  | x :: a, y :: b => if x = y then com a b + 1 else 0
  | _, _ => 0

theorem com_le : ∀ a b : List UInt8, com a b ≤ a.length ∧ com a b ≤ b.length
  | [], _ => by simp [com]
  | _ :: _, [] => by simp [com]
  | x :: a, y :: b => by
    have ih := com_le a b
    unfold com
    by_cases h : x = y
    · rw [if_pos h]; simp; omega
    · rw [if_neg h]; simp

theorem com_comm : ∀ a b : List UInt8, com a b = com b a
  | [], [] => rfl
  | [], _ :: _ => by simp [com]
  | _ :: _, [] => by simp [com]
  | x :: a, y :: b => by
    have ih := com_comm a b
    unfold com
    by_cases h : x = y
    · rw [if_pos h, if_pos h.symm, ih]
    · rw [if_neg h, if_neg (fun e => h e.symm)]

theorem com_self : ∀ a : List UInt8, com a a = a.length
  | [] => rfl
  | x :: a => by unfold com; rw [if_pos rfl, com_self a]; rfl

theorem com_take : ∀ a b : List UInt8, a.take (com a b) = b.take (com a b)
  | [], b => by simp [com]
  | _ :: _, [] => by simp [com]
  | x :: a, y :: b => by
    have ih := com_take a b
    unfold com
    by_cases h : x = y
    · rw [if_pos h]; simp [ih, h]
    · rw [if_neg h]; simp

theorem com_ne : ∀ a b : List UInt8, com a b < a.length → com a b < b.length → a.getD (com a b) 0 ≠ b.getD (com a b) 0
  | [], _ => by simp
  | _ :: _, [] => by simp
  | x :: a, y :: b => by
    have ih := com_ne a b
    unfold com
    by_cases h : x = y
    · rw [if_pos h]; simp only [List.length_cons, List.getD_cons_succ]; intro h1 h2; exact ih (by omega) (by omega)
    · rw [if_neg h]; simp only [List.getD_cons_zero]; intro _ _; exact h

/-- What ends a search for the first place where two lists differ. -/
theorem com_of : ∀ (k : Nat) (a b : List UInt8), k ≤ a.length → k ≤ b.length → (∀ i, i < k → a.getD i 0 = b.getD i 0) → (k = a.length ∨ k = b.length ∨ a.getD k 0 ≠ b.getD k 0) → com a b = k
  | 0, [], _, _, _, _, _ => by simp [com]
  | 0, _ :: _, [], _, _, _, _ => by simp [com]
  | 0, x :: a, y :: b, _, _, _, h => by
    unfold com
    rcases h with h | h | h
    · simp at h
    · simp at h
    · rw [if_neg (by simpa using h)]
  | k + 1, [], _, h, _, _, _ => by simp at h
  | k + 1, _ :: _, [], _, h, _, _ => by simp at h
  | k + 1, x :: a, y :: b, ha, hb, hs, h => by
    have h0 : x = y := by simpa using hs 0 (by omega)
    unfold com
    rw [if_pos h0, com_of k a b (by simpa using ha) (by simpa using hb) (fun i hi => by simpa using hs (i + 1) (by omega)) (by simpa using h)]

theorem com_tri : ∀ a b c : List UInt8, min (com a b) (com b c) ≤ com a c
  | [], _, _ => by simp [com]
  | _ :: _, [], _ => by simp [com]
  | _ :: _, _ :: _, [] => by simp [com]
  | x :: a, y :: b, z :: c => by
    have ih := com_tri a b c
    unfold com
    by_cases h1 : x = y
    · by_cases h2 : y = z
      · rw [if_pos h1, if_pos h2, if_pos (h1.trans h2)]; omega
      · rw [if_pos h1, if_neg h2]; omega
    · rw [if_neg h1]; omega

theorem u8_tri (x y : UInt8) : x < y ∨ x = y ∨ y < x := by
  rcases Nat.lt_trichotomy x.toNat y.toNat with h | h | h
  · exact .inl (UInt8.lt_iff_toNat_lt.2 h)
  · exact .inr (.inl (UInt8.toNat_inj.1 h))
  · exact .inr (.inr (UInt8.lt_iff_toNat_lt.2 h))

theorem cmp_cons (x y : UInt8) (a b : List UInt8) : cmp (x :: a) (y :: b) = if x < y then -1 else if y < x then 1 else cmp a b := rfl
theorem cmp_lt {x y : UInt8} (h : x < y) (a b : List UInt8) : cmp (x :: a) (y :: b) = -1 := by rw [cmp_cons, if_pos h]
theorem cmp_gt {x y : UInt8} (h : y < x) (a b : List UInt8) : cmp (x :: a) (y :: b) = 1 := by
  rw [cmp_cons, if_neg (UInt8.lt_asymm h), if_pos h]
theorem cmp_eq (x : UInt8) (a b : List UInt8) : cmp (x :: a) (x :: b) = cmp a b := by
  rw [cmp_cons, if_neg (UInt8.lt_irrefl x), if_neg (UInt8.lt_irrefl x)]

/-- Two lists stand one below the other, alike, or the other way round. -/
theorem cmp_range : ∀ a b : List UInt8, cmp a b = -1 ∨ cmp a b = 0 ∨ cmp a b = 1
  | [], [] => .inr (.inl rfl)
  | [], _ :: _ => .inl rfl
  | _ :: _, [] => .inr (.inr rfl)
  | x :: a, y :: b => by
    rcases u8_tri x y with h | h | h
    · exact .inl (cmp_lt h a b)
    · subst h; rw [cmp_eq]; exact cmp_range a b
    · exact .inr (.inr (cmp_gt h a b))

theorem cmp_anti : ∀ a b : List UInt8, cmp a b = -cmp b a
  | [], [] => rfl
  | [], _ :: _ => rfl
  | _ :: _, [] => rfl
  | x :: a, y :: b => by
    rcases u8_tri x y with h | h | h
    · rw [cmp_lt h, cmp_gt h]
    · subst h; rw [cmp_eq, cmp_eq]; exact cmp_anti a b
    · rw [cmp_gt h, cmp_lt h]; rfl

theorem cmp_zero : ∀ a b : List UInt8, cmp a b = 0 ↔ a = b
  | [], [] => by simp [cmp, Lib.compareBytes]
  | [], _ :: _ => by simp [cmp, Lib.compareBytes]
  | _ :: _, [] => by simp [cmp, Lib.compareBytes]
  | x :: a, y :: b => by
    rcases u8_tri x y with h | h | h
    · rw [cmp_lt h]; simp; intro e; exact absurd (e ▸ h) (UInt8.lt_irrefl _)
    · subst h; rw [cmp_eq, cmp_zero a b]; simp
    · rw [cmp_gt h]; simp; intro e; exact absurd (e ▸ h) (UInt8.lt_irrefl _)

theorem cmp_self (a : List UInt8) : cmp a a = 0 := (cmp_zero a a).2 rfl

theorem cmp_trans : ∀ a b c : List UInt8, cmp a b ≤ 0 → cmp b c ≤ 0 → cmp a c = min (cmp a b) (cmp b c)
  | [], [], c => by intro _ h; rw [cmp_self]; omega
  | [], _ :: _, [] => by intro _ h; simp [cmp, Lib.compareBytes] at h
  | [], y :: b, z :: c => by
    intro _ h
    have e1 : cmp [] (y :: b) = -1 := rfl
    have e2 : cmp [] (z :: c) = -1 := rfl
    rw [e1, e2]
    rcases cmp_range (y :: b) (z :: c) with g | g | g <;> omega
  | _ :: _, [], _ => by intro h; simp [cmp, Lib.compareBytes] at h
  | x :: a, y :: b, [] => by intro _ h; simp [cmp, Lib.compareBytes] at h
  | x :: a, y :: b, z :: c => by
    intro h1 h2
    have ih := cmp_trans a b c
    rcases u8_tri x y with h | h | h
    · rcases u8_tri y z with g | g | g
      · rw [cmp_lt (UInt8.lt_trans h g), cmp_lt h, cmp_lt g]; rfl
      · subst g; rw [cmp_eq] at h2 ⊢; rw [cmp_lt h, cmp_lt h]; rcases cmp_range b c with e | e | e <;> omega
      · rw [cmp_gt g] at h2; omega
    · subst h
      rcases u8_tri x z with g | g | g
      · rw [cmp_eq] at h1 ⊢; rw [cmp_lt g, cmp_lt g]; rcases cmp_range a b with e | e | e <;> omega
      · subst g; rw [cmp_eq] at h1 h2; rw [cmp_eq, cmp_eq, cmp_eq]; exact ih h1 h2
      · rw [cmp_gt g] at h2; omega
    · rw [cmp_gt h] at h1; omega

/-- A list is below what goes on behind it. -/
theorem cmp_snoc (a : List UInt8) : cmp a (a ++ [0]) = -1 := by
  induction a with
  | nil => rfl
  | cons x a ih => rw [List.cons_append, cmp_eq]; exact ih

theorem u8_not_lt_zero (x : UInt8) : ¬ x < 0 := by intro h; have := UInt8.lt_iff_toNat_lt.1 h; simp at this

/-- Above a list is just what is not below the list with a zero behind it. -/
theorem cmp_snoc_iff : ∀ a c : List UInt8, cmp c a = 1 ↔ 0 ≤ cmp c (a ++ [0])
  | [], [] => by decide
  | [], x :: c => by
    have hx := u8_not_lt_zero x
    simp only [List.nil_append]
    rcases u8_tri x 0 with h | h | h
    · exact absurd h hx
    · subst h; rw [cmp_eq]; cases c <;> simp [cmp, Lib.compareBytes]
    · rw [cmp_gt h]; simp [cmp, Lib.compareBytes]
  | x :: a, [] => by simp [cmp, Lib.compareBytes]
  | x :: a, y :: c => by
    rw [List.cons_append]
    rcases u8_tri y x with h | h | h
    · rw [cmp_lt h, cmp_lt h]; simp
    · subst h; rw [cmp_eq, cmp_eq]; exact cmp_snoc_iff a c
    · rw [cmp_gt h, cmp_gt h]; simp

theorem cmp_snoc_snoc : ∀ a c : List UInt8, cmp (a ++ [0]) (c ++ [0]) = cmp a c
  | [], [] => by decide
  | [], x :: c => by
    have hx := u8_not_lt_zero x
    simp only [List.nil_append, List.cons_append]
    rcases u8_tri x 0 with h | h | h
    · exact absurd h hx
    · subst h; rw [cmp_eq]; cases c <;> simp [cmp, Lib.compareBytes]
    · rw [cmp_lt h]; simp [cmp, Lib.compareBytes]
  | x :: a, [] => by
    have hx := u8_not_lt_zero x
    simp only [List.nil_append, List.cons_append]
    rcases u8_tri x 0 with h | h | h
    · exact absurd h hx
    · subst h; rw [cmp_eq]; cases a <;> simp [cmp, Lib.compareBytes]
    · rw [cmp_gt h]; simp [cmp, Lib.compareBytes]
  | x :: a, y :: c => by
    rw [List.cons_append, List.cons_append]
    rcases u8_tri x y with h | h | h
    · rw [cmp_lt h, cmp_lt h]
    · subst h; rw [cmp_eq, cmp_eq]; exact cmp_snoc_snoc a c
    · rw [cmp_gt h, cmp_gt h]

theorem com_snoc : ∀ a : List UInt8, com a (a ++ [0]) = a.length
  | [] => by simp [com]
  | x :: a => by rw [List.cons_append]; unfold com; rw [if_pos rfl, com_snoc a]; rfl

/-- Where one list is below another, the other goes on behind what they have alike. -/
theorem com_lt : ∀ a b : List UInt8, cmp a b = -1 → com a b < b.length
  | [], [] => by intro h; simp [cmp, Lib.compareBytes] at h
  | [], _ :: _ => by intro _; simp [com]
  | _ :: _, [] => by intro h; simp [cmp, Lib.compareBytes] at h
  | x :: a, y :: b => by
    intro h
    unfold com
    by_cases e : x = y
    · subst e; rw [cmp_eq] at h; rw [if_pos rfl]; have := com_lt a b h; simp; omega
    · rw [if_neg e]; simp

/-- The beginning of b that goes one byte on behind what a and b have alike is above a. -/
theorem cmp_between : ∀ a b : List UInt8, cmp a b = -1 → cmp a (b.take (com a b + 1)) = -1
  | [], [] => by intro h; simp [cmp, Lib.compareBytes] at h
  | [], _ :: _ => by intro _; simp [com, cmp, Lib.compareBytes]
  | _ :: _, [] => by intro h; simp [cmp, Lib.compareBytes] at h
  | x :: a, y :: b => by
    intro h
    unfold com
    rcases u8_tri x y with e | e | e
    · have hne : x ≠ y := by intro q; subst q; exact UInt8.lt_irrefl _ e
      rw [if_neg hne, Nat.zero_add, List.take_succ_cons, cmp_lt e]
    · subst e; rw [if_pos rfl, List.take_succ_cons, cmp_eq]; rw [cmp_eq] at h; exact cmp_between a b h
    · rw [cmp_gt e] at h; simp at h

/-- A beginning is not above the list. -/
theorem cmp_take : ∀ (n : Nat) (b : List UInt8), cmp (b.take n) b ≤ 0
  | _, [] => by simp [cmp, Lib.compareBytes]
  | 0, _ :: _ => by simp [cmp, Lib.compareBytes]
  | n + 1, x :: b => by rw [List.take_succ_cons, cmp_eq]; exact cmp_take n b

theorem com_take_self : ∀ (n : Nat) (b : List UInt8), com (b.take n) b = (b.take n).length
  | _, [] => by simp [com]
  | 0, _ :: _ => by simp [com]
  | n + 1, x :: b => by rw [List.take_succ_cons]; unfold com; rw [if_pos rfl, com_take_self n b]; rfl

/-- What is above a and not above b has more bytes than a and b have alike. -/
theorem short : ∀ a b c : List UInt8, cmp a c = -1 → cmp c b ≤ 0 → com a b < c.length
  | [], _, [] => by intro h; simp [cmp, Lib.compareBytes] at h
  | _ :: _, _, [] => by intro h; simp [cmp, Lib.compareBytes] at h
  | [], _, z :: c => by intro _ _; simp [com]
  | _ :: _, [], z :: c => by intro _ h; simp [cmp, Lib.compareBytes] at h
  | x :: a, y :: b, z :: c => by
    intro h1 h2
    unfold com
    by_cases e : x = y
    · subst e
      rw [if_pos rfl]
      rcases u8_tri x z with g | g | g
      · rw [cmp_gt g] at h2; simp at h2
      · subst g; rw [cmp_eq] at h1 h2; have := short a b c h1 h2; simp; omega
      · rw [cmp_gt g] at h1; simp at h1
    · rw [if_neg e]; simp
end Go.Proofs.Ytllppkfeiifklaa.Math
namespace Go.Proofs.Ytllppkfeiifklaa
open Go.RowKit Go.Lib
set_option linter.unusedVariables false
set_option maxRecDepth 20000

/-- w' is w but for the blocks of X, and for new ones. -/
structure Turn (X : Nat → Prop) (w w' : World) : Prop where
  os : w'.os = w.os
  tape : w'.tape = w.tape
  output : w'.output = w.output
  size : w.heap.size ≤ w'.heap.size
  block : ∀ k, k < w.heap.size → ¬ X k → w'.heap[k]? = w.heap[k]?

theorem Turn.refl (X : Nat → Prop) (w : World) : Turn X w w := ⟨rfl, rfl, rfl, Nat.le_refl _, fun _ _ _ => rfl⟩
theorem Turn.then {X Y : Nat → Prop} {a b c : World} (h : Turn X a b) (k : Turn Y b c) (hs : ∀ i, i < a.heap.size → Y i → X i) : Turn X a c :=
  ⟨k.os.trans h.os, k.tape.trans h.tape, k.output.trans h.output, Nat.le_trans h.size k.size, fun i hi hn => (k.block i (Nat.lt_of_lt_of_le hi h.size) (fun hy => hn (hs i hi hy))).trans (h.block i hi hn)⟩
theorem Turn.trans {X : Nat → Prop} {a b c : World} (h : Turn X a b) (k : Turn X b c) : Turn X a c := h.then k fun _ _ hx => hx
theorem Turn.mono {X Y : Nat → Prop} {w w' : World} (h : Turn X w w') (hs : ∀ k, k < w.heap.size → X k → Y k) : Turn Y w w' :=
  (Turn.refl Y w).then h hs
theorem Turn.alloc {X : Nat → Prop} {a w : World} (h : Turn X a w) (o : Obj) : Turn X a (w.alloc o) :=
  h.trans ⟨rfl, rfl, rfl, by simp, fun k hk _ => Below.heap_alloc _ _ _ hk⟩
theorem Turn.drew {X : Nat → Prop} {a w : World} (h : Turn X a w) : Turn X a w.drew := ⟨h.os, h.tape, h.output, h.size, h.block⟩
theorem Turn.drewN {X : Nat → Prop} {a w : World} (h : Turn X a w) (n : Nat) : Turn X a (w.drewN n) := ⟨h.os, h.tape, h.output, h.size, h.block⟩
theorem Turn.of_drewN {X : Nat → Prop} {a w : World} {n : Nat} (h : Turn X (a.drewN n) w) : Turn X a w := ⟨h.os, h.tape, h.output, h.size, h.block⟩
theorem Turn.setCell {X : Nat → Prop} {a w : World} (h : Turn X a w) {p : Addr} (hp : X p.block ∨ a.heap.size ≤ p.block) (u : Value) : Turn X a (w.setCell p u) :=
  h.then (Y := fun i => i = p.block) ⟨rfl, rfl, rfl, by simp [World.setCell], fun k _ hk => Below.heap_setCell _ _ _ _ hk⟩ (by
    intro i hi he
    subst he
    rcases hp with hp | hp
    · exact hp
    · omega)
theorem Turn.grown {X : Nat → Prop} {a w w' : World} {row : Option Nat} (h : Turn X a w) (hg : w.grownBy w' row) (hr : ∀ k, row = some k → X k ∨ a.heap.size ≤ k) : Turn X a w' :=
  h.then (Y := fun i => some i = row) ⟨hg.os, hg.tape, hg.output, hg.size, fun k hk hn => hg.block k hk hn⟩ (by
    intro i hi he
    rcases hr i he.symm with hp | hp
    · exact hp
    · omega)
theorem Turn.below {X : Nat → Prop} {w w' : World} (h : Turn X w w') {B : Nat} (hB : B ≤ w.heap.size) (hX : ∀ k, k < B → ¬ X k) : Below B w w' :=
  ⟨h.os, h.tape, h.output, h.size, fun k hk => h.block k (by omega) (hX k hk)⟩
theorem Turn.of_below {X : Nat → Prop} {w w' : World} (h : Below w.heap.size w w') : Turn X w w' := ⟨h.os, h.tape, h.output, h.size, fun k hk _ => h.block k hk⟩

/-- Block g is the object o. -/
def At (w : World) (g : Nat) (o : Obj) : Prop := w.heap[g]? = some o
section
variable {w w' : World} {g : Nat} {o : Obj} {c : Array Value} {t : TypeId} {f : Nat × Nat}
theorem At.lt (h : At w g o) : g < w.heap.size := (Array.getElem?_eq_some_iff.1 h).1
theorem At.turn {X : Nat → Prop} (h : At w g o) (k : Turn X w w') (hg : ¬ X g) : At w' g o := (k.block g h.lt hg).trans h
theorem At.cell (h : At w g (.cells c t f)) (i : Nat) : w.cell? ⟨g, i, none⟩ = c[i]? := by
  unfold At at h
  simp [World.cell?, h]
theorem At.thawed (h : At w g (.cells c t (0, 0))) (i : Nat) : w.frozen? ⟨g, i, none⟩ = false := by
  unfold At at h
  simp [World.frozen?, h]
theorem At.new (w : World) (o : Obj) : At (w.alloc o) w.heap.size o := by
  show (w.heap.push o)[w.heap.size]? = _
  rw [Array.getElem?_push, if_pos rfl]
theorem At.set (h : At w g (.cells c t f)) (i : Nat) (u : Value) : At (w.setCell ⟨g, i, none⟩ u) g (.cells (c.setIfInBounds i u) t f) := by
  unfold At at h ⊢
  simp [World.setCell, Array.getElem?_modify, h]
theorem At.eq {o' : Obj} (h : At w g o) (h' : At w g o') : o = o' := Option.some.inj (h.symm.trans h')
theorem At.ne {g' : Nat} {o' : Obj} (h : At w g o) (h' : At w g' o') (hne : o ≠ o') : g ≠ g' := fun e => hne (by subst e; exact h.eq h')
end

end Go.Proofs.Ytllppkfeiifklaa
namespace Go.Proofs.Ytllppkfeiifklaa
open Go.RowKit Go.Lib
set_option linter.unusedVariables false
set_option maxRecDepth 20000

def kcmp (a b : ByteArray) : Int := Lib.compareBytes a.data.toList b.data.toList
def kl (a b : ByteArray) : Prop := kcmp a b < 0
instance (a b : ByteArray) : Decidable (kl a b) := inferInstanceAs (Decidable (kcmp a b < 0))
theorem bytes_ext {a b : ByteArray} (h : a.data.toList = b.data.toList) : a = b := by
  obtain ⟨⟨a⟩⟩ := a
  obtain ⟨⟨b⟩⟩ := b
  simp at h
  rw [h]
theorem kcmp_zero {a b : ByteArray} : kcmp a b = 0 ↔ a = b := by
  unfold kcmp
  rw [show (Lib.compareBytes a.data.toList b.data.toList = 0 ↔ _) from Math.cmp_zero _ _]
  exact ⟨bytes_ext, fun h => by rw [h]⟩
theorem kcmp_anti (a b : ByteArray) : kcmp a b = -kcmp b a := Math.cmp_anti _ _
theorem kcmp_range (a b : ByteArray) : kcmp a b = -1 ∨ kcmp a b = 0 ∨ kcmp a b = 1 := Math.cmp_range _ _
theorem kl_irrefl (a : ByteArray) : ¬ kl a a := by
  unfold kl
  rw [kcmp_zero.2 rfl]
  decide
theorem kl_trans {a b c : ByteArray} (h : kl a b) (k : kl b c) : kl a c := by
  unfold kl at *
  have := Math.cmp_trans a.data.toList b.data.toList c.data.toList (by unfold kcmp at h; exact Int.le_of_lt h) (by unfold kcmp at k; exact Int.le_of_lt k)
  unfold kcmp at *
  change Lib.compareBytes _ _ = min (Lib.compareBytes _ _) (Lib.compareBytes _ _) at this
  omega
theorem kl_tri (a b : ByteArray) : kl a b ∨ a = b ∨ kl b a := by
  unfold kl
  rcases kcmp_range a b with h | h | h
  · exact .inl (by omega)
  · exact .inr (.inl (kcmp_zero.1 h))
  · exact .inr (.inr (by rw [kcmp_anti]; omega))
theorem kl_asymm {a b : ByteArray} (h : kl a b) : ¬ kl b a := fun k => kl_irrefl a (kl_trans h k)
theorem kl_ne {a b : ByteArray} (h : kl a b) : a ≠ b := fun e => kl_irrefl b (e ▸ h)
/-- not above -/
theorem kl_le_lt {a b c : ByteArray} (h : ¬ kl b a) (k : kl b c) : kl a c := by
  rcases kl_tri a b with h1 | h1 | h1
  · exact kl_trans h1 k
  · exact h1 ▸ k
  · exact absurd h1 h
theorem kl_lt_le {a b c : ByteArray} (h : kl a b) (k : ¬ kl c b) : kl a c := by
  rcases kl_tri b c with h1 | h1 | h1
  · exact kl_trans h h1
  · exact h1 ▸ h
  · exact absurd h1 k

structure Pr where
  (k v : ByteArray)
def Pr.cs (p : Pr) : List Value := [.string p.k, .string p.v]
def pcs (l : List Pr) : List Value := l.flatMap Pr.cs
def Asc (l : List Pr) : Prop := l.Pairwise fun p q => kl p.k q.k
def getL (l : List Pr) (key : ByteArray) : Option ByteArray := (l.find? fun p => decide (p.k = key)).map Pr.v
def putL : List Pr → ByteArray → ByteArray → List Pr
  | [], k, v => [⟨k, v⟩]
  | p :: t, k, v => if kl p.k k then p :: putL t k v else if p.k = k then ⟨k, v⟩ :: t else ⟨k, v⟩ :: p :: t
def delL (l : List Pr) (key : ByteArray) : List Pr := l.filter fun p => !decide (p.k = key)
def lowL (l : List Pr) (key : ByteArray) : List Pr := l.takeWhile fun p => decide (kl p.k key)
def hiL (l : List Pr) (key : ByteArray) : List Pr := l.dropWhile fun p => decide (kl p.k key)
def hasL (l : List Pr) (key : ByteArray) : Bool := match hiL l key with
  | p :: _ => decide (p.k = key)
  | [] => false
/-- what is not below a key, or (aft) above it -/
def nexts (l : List Pr) (key : ByteArray) (aft : Bool) : List Pr := if (hasL l key && aft) = true then (hiL l key).tail else hiL l key

theorem split_L (l : List Pr) (key : ByteArray) : lowL l key ++ hiL l key = l := List.takeWhile_append_dropWhile
theorem low_mem {l : List Pr} {key : ByteArray} {p : Pr} (h : p ∈ lowL l key) : kl p.k key := by
  have := List.all_takeWhile (p := fun p : Pr => decide (kl p.k key)) (l := l)
  exact of_decide_eq_true (List.all_eq_true.1 this p h)
theorem Asc.hi {l : List Pr} (h : Asc l) {key : ByteArray} {p : Pr} (hp : p ∈ hiL l key) : ¬ kl p.k key := by
  induction l with
  | nil => simp [hiL] at hp
  | cons q t ih =>
    unfold hiL at hp
    rw [List.dropWhile_cons] at hp
    split at hp
    · exact ih (List.Pairwise.of_cons h) hp
    · rename_i hq
      simp only [decide_eq_true_eq] at hq
      rcases List.mem_cons.1 hp with rfl | hp
      · exact hq
      · exact fun hk => hq (kl_trans (List.rel_of_pairwise_cons h hp) hk)
theorem Asc.low {l : List Pr} (h : Asc l) (key : ByteArray) : Asc (lowL l key) := List.Pairwise.sublist (List.takeWhile_sublist _) h
theorem Asc.his {l : List Pr} (h : Asc l) (key : ByteArray) : Asc (hiL l key) := List.Pairwise.sublist (List.dropWhile_sublist _) h
/-- Where it is there, it is the first of those that are not below it. -/
theorem has_true {l : List Pr} {key : ByteArray} (h : hasL l key = true) : ∃ v t, hiL l key = ⟨key, v⟩ :: t := by
  unfold hasL at h
  split at h
  · rename_i p t hp
    obtain ⟨k, v⟩ := p
    simp only [decide_eq_true_eq] at h
    subst h
    exact ⟨v, t, hp⟩
  · cases h
theorem Asc.has_false {l : List Pr} (ha : Asc l) {key : ByteArray} (h : hasL l key = false) {p : Pr} (hp : p ∈ hiL l key) : kl key p.k := by
  unfold hasL at h
  split at h
  · rename_i q t hq
    have hh := ha.his key
    rw [hq] at hp hh
    have h0 := ha.hi (key := key) (p := q) (by rw [hq]; exact List.mem_cons_self)
    simp only [decide_eq_false_iff_not] at h
    have hq : kl key q.k := by
      rcases kl_tri key q.k with h1 | h1 | h1
      · exact h1
      · exact absurd h1.symm h
      · exact absurd h1 h0
    rcases List.mem_cons.1 hp with rfl | hp
    · exact hq
    · exact kl_trans hq (List.rel_of_pairwise_cons hh hp)
  · rename_i hq
    rw [hq] at hp
    cases hp
theorem get_low {l : List Pr} {key : ByteArray} (m : List Pr) : getL (lowL l key ++ m) key = getL m key := by
  unfold getL
  rw [List.find?_append, List.find?_eq_none.2 (fun p hp => by simpa using kl_ne (low_mem hp))]
  rfl
theorem Asc.get_hi {l : List Pr} (ha : Asc l) {key : ByteArray} (h : hasL l key = false) : getL l key = none := by
  rw [← split_L l key, get_low]
  unfold getL
  rw [List.find?_eq_none.2 (fun p hp => by simpa using (kl_ne (ha.has_false h hp)).symm)]
  rfl
theorem get_has {l : List Pr} {key v : ByteArray} {t : List Pr} (h : hiL l key = ⟨key, v⟩ :: t) : getL l key = some v := by
  rw [← split_L l key, get_low, h]
  simp [getL]
theorem put_low : ∀ (l : List Pr) (key v : ByteArray), putL l key v = lowL l key ++ ⟨key, v⟩ :: (if hasL l key = true then (hiL l key).tail else hiL l key)
  | [], key, v => by simp [putL, lowL, hiL, hasL]
  | p :: t, key, v => by
    have ih := put_low t key v
    unfold putL lowL hiL
    rw [List.takeWhile_cons, List.dropWhile_cons]
    by_cases h : kl p.k key
    · have hh : hasL (p :: t) key = hasL t key := by simp [hasL, hiL, h]
      rw [if_pos h, if_pos (decide_eq_true h), if_pos (decide_eq_true h), ih, hh]
      rfl
    · have hh : hasL (p :: t) key = decide (p.k = key) := by simp [hasL, hiL, h]
      have hd : decide (kl p.k key) = false := by simpa using h
      rw [if_neg h, hh]
      simp only [hd, Bool.false_eq_true, if_false, List.nil_append, List.tail_cons]
      by_cases e : p.k = key
      · rw [if_pos e, if_pos (decide_eq_true e)]
      · rw [if_neg e, if_neg (by simpa using e)]
theorem Asc.del_low {l : List Pr} (ha : Asc l) (key : ByteArray) : delL l key = lowL l key ++ (if hasL l key = true then (hiL l key).tail else hiL l key) := by
  have h1 : delL l key = delL (lowL l key) key ++ delL (hiL l key) key := by
    unfold delL
    rw [← List.filter_append, split_L]
  rw [h1]
  congr 1
  · exact List.filter_eq_self.2 fun p hp => by simpa using kl_ne (low_mem hp)
  · cases h : hasL l key with
    | true =>
      obtain ⟨v, t, ht⟩ := has_true h
      rw [ht, if_pos rfl]
      unfold delL
      rw [List.filter_cons_of_neg (by simp), List.tail_cons]
      have hh := ha.his key
      rw [ht] at hh
      exact List.filter_eq_self.2 fun p hp => by simpa using (kl_ne (List.rel_of_pairwise_cons hh hp)).symm
    | false =>
      rw [if_neg (by simp)]
      exact List.filter_eq_self.2 fun p hp => by simpa using (kl_ne (ha.has_false h hp)).symm

theorem Asc.put {l : List Pr} (ha : Asc l) (key v : ByteArray) : Asc (putL l key v) := by
  rw [put_low]
  unfold Asc
  rw [List.pairwise_append, List.pairwise_cons]
  have hrest : ∀ p ∈ (if hasL l key = true then (hiL l key).tail else hiL l key), kl key p.k := by
    intro p hp
    cases h : hasL l key with
    | true =>
      obtain ⟨v', t, ht⟩ := has_true h
      rw [if_pos h, ht, List.tail_cons] at hp
      have hh := ha.his key
      rw [ht] at hh
      exact List.rel_of_pairwise_cons hh hp
    | false =>
      rw [if_neg (by simp [h])] at hp
      exact ha.has_false h hp
  refine ⟨ha.low key, ⟨hrest, ?_⟩, ?_⟩
  · split
    · exact List.Pairwise.sublist (List.tail_sublist _) (ha.his key)
    · exact ha.his key
  · intro p hp q hq
    rcases List.mem_cons.1 hq with rfl | hq
    · exact low_mem hp
    · exact kl_trans (low_mem hp) (hrest q hq)
theorem Asc.del {l : List Pr} (ha : Asc l) (key : ByteArray) : Asc (delL l key) := List.Pairwise.sublist (List.filter_sublist) ha
theorem get_put : ∀ (l : List Pr) (key v k : ByteArray), getL (putL l key v) k = if k = key then some v else getL l k
  | [], key, v, k => by
    by_cases h : k = key
    · simp [putL, getL, h]
    · simp [putL, getL, h, Ne.symm h]
  | p :: t, key, v, k => by
    have ih := get_put t key v k
    unfold getL at *
    unfold putL
    split
    · rename_i h1
      rw [List.find?_cons, List.find?_cons]
      by_cases h2 : p.k = k
      · have : k ≠ key := by rw [← h2]; exact kl_ne h1
        simp [h2, this]
      · simp only [h2, decide_false]
        exact ih
    · split
      · rename_i h1 h2
        rw [List.find?_cons, List.find?_cons]
        by_cases h3 : k = key
        · simp [h3]
        · have h4 : ¬ key = k := fun e => h3 e.symm
          have h5 : ¬ p.k = k := by rw [h2]; exact h4
          simp [h3, h4, h5]
      · rw [List.find?_cons]
        by_cases h3 : k = key
        · simp [h3]
        · have h4 : ¬ key = k := fun e => h3 e.symm
          simp [h3, h4]
theorem get_del (l : List Pr) (key k : ByteArray) : getL (delL l key) k = if k = key then none else getL l k := by
  unfold getL delL
  rw [List.find?_filter]
  by_cases h : k = key
  · rw [if_pos h, List.find?_eq_none.2 (fun p _ => by subst h; simp)]
    rfl
  · rw [if_neg h]
    congr 2
    funext p
    by_cases e : p.k = k
    · simp [e, h]
    · simp [e]
theorem get_mem {l : List Pr} {k v : ByteArray} (h : getL l k = some v) : ⟨k, v⟩ ∈ l := by
  unfold getL at h
  obtain ⟨p, hp, rfl⟩ := Option.map_eq_some_iff.1 h
  have h1 := List.find?_some hp
  have h2 := List.mem_of_find?_eq_some hp
  simp only [decide_eq_true_eq] at h1
  subst h1
  exact h2
theorem Asc.get_of_mem {l : List Pr} (ha : Asc l) {k v : ByteArray} (h : ⟨k, v⟩ ∈ l) : getL l k = some v := by
  induction l with
  | nil => cases h
  | cons p t ih =>
    unfold getL at *
    rw [List.find?_cons]
    rcases List.mem_cons.1 h with rfl | h
    · simp
    · have hne : p.k ≠ k := kl_ne (List.rel_of_pairwise_cons ha h)
      simp only [hne, decide_false]
      exact ih (List.Pairwise.of_cons ha) h
/-- Two maps that have the same are the same. -/
theorem Asc.ext : ∀ {l m : List Pr}, Asc l → Asc m → (∀ k, getL l k = getL m k) → l = m
  | [], [], _, _, _ => rfl
  | [], p :: t, _, _, h => by
    have := h p.k
    simp [getL] at this
  | p :: t, [], _, _, h => by
    have := h p.k
    simp [getL] at this
  | p :: t, q :: s, hl, hm, h => by
    have hpq : p.k = q.k := by
      rcases kl_tri p.k q.k with h1 | h1 | h1
      · exfalso
        have e1 : getL (p :: t) p.k = some p.v := by simp [getL]
        rw [h] at e1
        have := get_mem e1
        rcases List.mem_cons.1 this with h2 | h2
        · exact kl_ne h1 (congrArg Pr.k h2)
        · exact kl_irrefl _ (kl_trans h1 (List.rel_of_pairwise_cons hm h2))
      · exact h1
      · exfalso
        have e1 : getL (q :: s) q.k = some q.v := by simp [getL]
        rw [← h] at e1
        have := get_mem e1
        rcases List.mem_cons.1 this with h2 | h2
        · exact kl_ne h1 (congrArg Pr.k h2)
        · exact kl_irrefl _ (kl_trans h1 (List.rel_of_pairwise_cons hl h2))
    have hv : p.v = q.v := by
      have := h p.k
      simp only [getL, List.find?_cons, decide_true, hpq] at this
      simpa using this
    have ht : t = s := Asc.ext (List.Pairwise.of_cons hl) (List.Pairwise.of_cons hm) fun k => by
      have hk := h k
      by_cases e : p.k = k
      · have n1 : getL t k = none := by
          unfold getL
          rw [List.find?_eq_none.2 (fun r hr => by simpa using fun e2 => kl_ne (List.rel_of_pairwise_cons hl hr) (e.trans e2.symm))]
          rfl
        have n2 : getL s k = none := by
          unfold getL
          rw [List.find?_eq_none.2 (fun r hr => by simpa using fun e2 => kl_ne (List.rel_of_pairwise_cons hm hr) ((hpq.symm.trans e).trans e2.symm))]
          rfl
        rw [n1, n2]
      · have e2 : ¬ q.k = k := by rw [← hpq]; exact e
        simpa [getL, List.find?_cons, e, e2] using hk
    obtain ⟨pk, pv⟩ := p
    obtain ⟨qk, qv⟩ := q
    simp only at hpq hv
    rw [hpq, hv, ht]
theorem put_length (l : List Pr) (k v : ByteArray) : (putL l k v).length ≤ l.length + 1 := by
  have h1 := congrArg List.length (split_L l k)
  rw [put_low]
  split <;> simp at h1 ⊢ <;> omega
theorem del_length (l : List Pr) (k : ByteArray) : (delL l k).length ≤ l.length := List.length_filter_le _ _
end Go.Proofs.Ytllppkfeiifklaa
namespace Go.Proofs.Ytllppkfeiifklaa
open Go.RowKit Go.Lib
set_option linter.unusedVariables false
set_option maxRecDepth 20000

def No (_ : Nat) : Prop := False
theorem At.no {w w' : World} {g : Nat} {o : Obj} (h : At w g o) (t : Turn No w w') : At w' g o := h.turn t (fun h => h)
theorem At.new2 (w : World) (o o2 : Obj) : At ((w.alloc o).alloc o2) (w.heap.size + 1) o2 := by simpa using At.new (w.alloc o) o2
theorem Turn.set1 (w : World) (g i : Nat) (u : Value) : Turn (fun k => k = g) w (w.setCell ⟨g, i, none⟩ u) := Turn.setCell (X := fun k => k = g) (p := ⟨g, i, none⟩) (Turn.refl _ w) (Or.inl rfl) u
def Fit (a : ByteArray) : Prop := a.size ≤ 140737488355328

theorem bytes_beq (a b : ByteArray) : (a.toList == b.toList) = decide (a = b) := by
  rw [ByteArray.toList_eq, ByteArray.toList_eq]
  obtain ⟨⟨x⟩⟩ := a
  obtain ⟨⟨y⟩⟩ := b
  by_cases h : x = y
  · subst h; simp
  · simp [h]
/-- strings.Clone -/
theorem clone_any (a : ByteArray) (h : Fit a) (w : World) :
    Calls Try.prog 79 #[.string a] w fun e w' => e = .returned (.string a) ∧ Turn No w w' := by
  have h' : a.size ≤ 281474976710656 := Nat.le_trans h (by decide)
  go_enter Try.func79, Try.ntmps79
  go_wp2_with (go_at_call 101; refine (Try.stringslite_Clone _ _ h').mono ?_; rintro e w' ⟨rfl, hb⟩)
  go_ret
  exact ⟨rfl, Turn.of_below hb⟩
theorem clone_turn (a : ByteArray) (hf : Fit a) {X : Nat → Prop} {w0 : World} (w : World) (h : Turn X w0 w) :
    Calls Try.prog 79 #[.string a] w fun e w' => e = .returned (.string a) ∧ Turn No w w' ∧ Turn X w0 w' := by
  refine (clone_any a hf w).mono ?_
  rintro e w' ⟨rfl, hb⟩
  exact ⟨rfl, hb, h.trans (hb.mono fun _ _ h => h.elim)⟩

/-- find's own function: a pair's key held against a key. -/
theorem cmp58_any (k v key : ByteArray) (w : World) :
    Calls Try.prog 108 #[.agg #[.string k, .string v], .string key] w fun e w' => e = .returned (.int .i64 (kcmp k key)) ∧ Turn No w w' := by
  have HB := Lib.hid (And.intro ((Turn.refl No w).alloc (.cells #[.string k, .string v] 47)) (At.new w (.cells #[.string k, .string v] 47)))
  go_enter Try.func108, Try.ntmps108
  go_upto_region 1 with (fail)
  generalize w.alloc (.cells #[.string k, .string v] 47) = w1 at HB ⊢
  have c0 := HB.out.2.cell 0
  simp at c0
  go_wp2_with (go_at_call 60; refine (Try.strings_Compare _ _ _).mono ?_; rintro e w' ⟨rfl, rfl⟩)
  go_ret
  exact ⟨rfl, HB.out.1⟩
/-- New's own functions: two pairs' keys. -/
theorem cmp28_any (k v k2 v2 : ByteArray) (w : World) :
    Calls Try.prog 59 #[.agg #[.string k, .string v], .agg #[.string k2, .string v2]] w fun e w' => e = .returned (.int .i64 (kcmp k k2)) ∧ Turn No w w' := by
  have HB := Lib.hid (And.intro (((Turn.refl No w).alloc (.cells #[.string k, .string v] 47)).alloc (.cells #[.string k2, .string v2] 47)) (And.intro ((At.new w (.cells #[.string k, .string v] 47)).no ((Turn.refl No _).alloc (.cells #[.string k2, .string v2] 47))) (At.new2 w (.cells #[.string k, .string v] 47) (.cells #[.string k2, .string v2] 47))))
  go_enter Try.func59, Try.ntmps59
  go_upto_region 1 with (fail)
  generalize (w.alloc (.cells #[.string k, .string v] 47)).alloc (.cells #[.string k2, .string v2] 47) = w1 at HB ⊢
  have c0 := HB.out.2.1.cell 0
  have c1 := HB.out.2.2.cell 0
  simp at c0 c1
  go_wp2_with (go_at_call 60; refine (Try.strings_Compare _ _ _).mono ?_; rintro e w' ⟨rfl, rfl⟩)
  go_ret
  exact ⟨rfl, HB.out.1⟩
theorem same31_any (k v k2 v2 : ByteArray) (w : World) :
    Calls Try.prog 62 #[.agg #[.string k, .string v], .agg #[.string k2, .string v2]] w fun e w' => e = .returned (.bool (decide (k = k2))) ∧ Turn No w w' := by
  have HB := Lib.hid (And.intro (((Turn.refl No w).alloc (.cells #[.string k, .string v] 47)).alloc (.cells #[.string k2, .string v2] 47)) (And.intro ((At.new w (.cells #[.string k, .string v] 47)).no ((Turn.refl No _).alloc (.cells #[.string k2, .string v2] 47))) (At.new2 w (.cells #[.string k, .string v] 47) (.cells #[.string k2, .string v2] 47))))
  go_enter Try.func62, Try.ntmps62
  go_upto_region 1 with (fail)
  generalize (w.alloc (.cells #[.string k, .string v] 47)).alloc (.cells #[.string k2, .string v2] 47) = w1 at HB ⊢
  have c0 := HB.out.2.1.cell 0
  have c1 := HB.out.2.2.cell 0
  simp at c0 c1
  go_wp2_with (fail)
  go_ret
  refine ⟨?_, HB.out.1⟩
  rw [← bytes_beq]
  rfl

set_option maxHeartbeats 1000000 in
theorem clonePair_any (k v : ByteArray) (hk : Fit k) (hv : Fit v) (w : World) :
    Calls Try.prog 92 #[.agg #[.string k, .string v]] w fun e w' => e = .returned (.agg #[.string k, .string v]) ∧ Turn No w w' := by
  have HB := Lib.hid (And.intro (((Turn.refl No w).alloc (.cells #[.string k, .string v] 47)).alloc (.cells #[.string ⟨#[]⟩, .string ⟨#[]⟩] 47)) (And.intro ((At.new w (.cells #[.string k, .string v] 47)).no ((Turn.refl No _).alloc (.cells #[.string ⟨#[]⟩, .string ⟨#[]⟩] 47))) (And.intro (At.new2 w (.cells #[.string k, .string v] 47) (.cells #[.string ⟨#[]⟩, .string ⟨#[]⟩] 47)) (Nat.le_refl w.heap.size))))
  go_enter Try.func92, Try.ntmps92
  go_upto_region 1 with (fail)
  generalize (w.alloc (.cells #[.string k, .string v] 47)).alloc (.cells #[.string ⟨#[]⟩, .string ⟨#[]⟩] 47) = w1 at HB ⊢
  generalize hg : w.heap.size = g at HB ⊢
  have hS0 : w1.drew.cell? ⟨g, 0, none⟩ = some (.string k) ∧ w1.drew.cell? ⟨g, 1, none⟩ = some (.string v) := ⟨by simpa using HB.out.2.1.cell 0, by simpa using HB.out.2.1.cell 1⟩
  have hS1 : Hid (∀ w2, Turn No w1 w2 → w2.cell? ⟨g, 0, none⟩ = some (.string k) ∧ w2.cell? ⟨g, 1, none⟩ = some (.string v)) := Lib.hid fun w2 t => ⟨by simpa using (HB.out.2.1.no t).cell 0, by simpa using (HB.out.2.1.no t).cell 1⟩
  have C1 : Hid (∀ W, Turn No w1 W → Calls Try.prog 79 #[.string k] W fun e w' => e = .returned (.string k) ∧ Turn No w1 w') := Lib.hid fun W t => (clone_turn k hk W t).mono fun e w' h => ⟨h.1, h.2.2⟩
  have C2 : Hid (∀ W, Turn No w1 W → Calls Try.prog 79 #[.string v] W fun e w' => e = .returned (.string v) ∧ Turn No w1 w') := Lib.hid fun W t => (clone_turn v hv W t).mono fun e w' h => ⟨h.1, h.2.2⟩
  have hS2 : Hid (∀ w2, Turn No w1 w2 → (w2.setCell ⟨g + 1, 0, none⟩ (.string k)).cell? ⟨g, 0, none⟩ = some (.string k) ∧ (w2.setCell ⟨g + 1, 0, none⟩ (.string k)).cell? ⟨g, 1, none⟩ = some (.string v)) := Lib.hid fun w2 t => by
    have t2 : Turn (fun i => i = g + 1) w2 (w2.setCell ⟨g + 1, 0, none⟩ (.string k)) := Turn.set1 w2 (g + 1) 0 (.string k)
    have := (HB.out.2.1.no t).turn t2 (by omega)
    exact ⟨by simpa using this.cell 0, by simpa using this.cell 1⟩
  have hS3 : Hid (∀ w2, Turn No w1 w2 → ((w2.setCell ⟨g + 1, 0, none⟩ (.string k)).setCell ⟨g + 1, 1, none⟩ (.string v)).cell? ⟨g, 0, none⟩ = some (.string k) ∧ ((w2.setCell ⟨g + 1, 0, none⟩ (.string k)).setCell ⟨g + 1, 1, none⟩ (.string v)).cell? ⟨g, 1, none⟩ = some (.string v)) := Lib.hid fun w2 t => by
    have t2 : Turn (fun i => i = g + 1) w2 ((w2.setCell ⟨g + 1, 0, none⟩ (.string k)).setCell ⟨g + 1, 1, none⟩ (.string v)) := (Turn.set1 w2 (g + 1) 0 (.string k)).trans (Turn.set1 _ (g + 1) 1 (.string v))
    have := (HB.out.2.1.no t).turn t2 (by omega)
    exact ⟨by simpa using this.cell 0, by simpa using this.cell 1⟩
  go_region_held3 (fun W => W.cell? ⟨g, 0, none⟩ = some (.string k) ∧ W.cell? ⟨g, 1, none⟩ = some (.string v)) (first | (with_reducible exact hS0) | (with_reducible exact hS2.out _ hz.out) | (with_reducible exact hS3.out _ hz.out) | (with_reducible exact hS1.out _ hz.out) | (with_reducible exact hS1.out _ hy.out)) (first | (go_at_call 79; (refine (C1.out _ ((Turn.refl _ _).drewN _)).mono ?_); rintro e wy ⟨rfl, hy⟩; replace hy := Lib.hid hy) | (go_at_call 79; (with_reducible refine (C2.out _ hy.out).mono ?_); rintro e wz ⟨rfl, hz⟩; replace hz := Lib.hid hz; have zf2 := (HB.out.2.2.1.no hz.out).thawed 0; have zf3 := (HB.out.2.2.1.no hz.out).thawed 1; have zc2 := (HB.out.2.2.1.no hz.out).cell 0; have zc3 := (HB.out.2.2.1.no hz.out).cell 1; simp at zc2 zc3))
  have HE : Hid (Turn No w ((wz.setCell ⟨g + 1, 0, none⟩ (.string k)).setCell ⟨g + 1, 1, none⟩ (.string v)) ∧ At ((wz.setCell ⟨g + 1, 0, none⟩ (.string k)).setCell ⟨g + 1, 1, none⟩ (.string v)) (g + 1) (.cells #[.string k, .string v] 47 (0, 0))) := by
    refine Lib.hid ⟨((HB.out.1.trans hz.out).setCell (Or.inr ?_) _).setCell (Or.inr ?_) _, ?_⟩
    any_goals (show w.heap.size ≤ g + 1; omega)
    simpa using ((HB.out.2.2.1.no hz.out).set 0 (.string k)).set 1 (.string v)
  clear hS1 hS2 hS3 C1 C2 HB hz zf2 zf3 zc2 zc3
  generalize (wz.setCell ⟨g + 1, 0, none⟩ (.string k)).setCell ⟨g + 1, 1, none⟩ (.string v) = w3 at HE ⊢
  go_wp2_with fail
  (try simp only [Exit.inBlock, Exit.then])
  refine bodyPost_ret (results_cell_row rfl _ _ (g + 1) 47 _ (0, 0) _ (by rfl) HE.out.2 Try.underlying47 rfl (by kernel_rfl)) rfl ?_
  exact ⟨rfl, HE.out.1⟩
end Go.Proofs.Ytllppkfeiifklaa
