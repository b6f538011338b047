/-
  What the functions of package keys that the laws call come to: Compare, Common, After, Clone, Between; for texts that the row lets in.
-/
import Derived.Test.YtnlmeeijellfaaaProg
import Derived.Test.YtnlmeeijellfaaaShelf
import Derived.Test.YtnlmeeijellfaaaMath
import Derived.WalkKit
import Derived.WalkSpells
import Derived.WalkLawsBesides
import Derived.Deep.QuietTactic
import Derived.BigQuiet
import Derived.Lib.Hide
namespace Go.Proofs.Ytnlmeeijellfaaa
open Go.RowKit
open Math
set_option linter.unusedVariables false

theorem below_of_drewN {B : Nat} {w w' : World} {n : Nat} (h : Below B (w.drewN n) w') : Below B w w' := ⟨h.os, h.tape, h.output, h.size, h.block⟩
theorem below_drewN {B : Nat} {a w : World} (h : Below B a w) (n : Nat) : Below B a (w.drewN n) := ⟨h.os, h.tape, h.output, h.size, h.block⟩

/-- keys.Compare: the world is as it was. -/
theorem compare_any (a b : ByteArray) (w : World) :
    Calls Try.prog 12 #[.string a, .string b] w fun e w' => e = .returned (.int .i64 (cmp a.data.toList b.data.toList)) ∧ w = w' := by
  go_enter Try.func12, Try.ntmps12
  go_wp2_with (go_at_call 26; refine (Try.strings_Compare _ _ _).mono ?_; rintro e w' ⟨rfl, rfl⟩)
  go_ret
  exact ⟨rfl, rfl⟩

theorem ret_int {k : IntKind} {a b : Int} (h : a = b) : Ending.returned (.int k a) = .returned (.int k b) := by rw [h]

theorem after_any (a : ByteArray) (w : World) (h : a.size ≤ 140737488355328) :
    Calls Try.prog 14 #[.string a] w fun e w' => e = .returned (.string (a ++ ⟨#[0]⟩)) ∧ w = w' := by
  go_enter Try.func14, Try.ntmps14
  go_wp2
  go_ret
  exact ⟨rfl, rfl⟩

theorem clone_any (a : ByteArray) (w : World) (h : a.size ≤ 140737488355328) :
    Calls Try.prog 25 #[.string a] w fun e w' => e = .returned (.string a) ∧ Below w.heap.size w w' := by
  go_enter Try.func25, Try.ntmps25
  go_wp2_with (go_at_call 35; refine (Try.stringslite_Clone _ _ (by omega)).mono ?_; rintro e w' ⟨rfl, hb⟩)
  go_ret
  exact ⟨rfl, hb⟩

theorem getD_at (a : ByteArray) (k : Nat) (h : k < a.size) : a.data.toList.getD k 0 = a[k] := by
  have h' : k < a.data.toList.length := by simpa using h
  rw [List.getD, List.getElem?_eq_getElem h']
  rfl

theorem alike_of {a b : ByteArray} {k : Nat} (ha : k < a.size) (hb : k < b.size) (h : ((a[k].toNat : Int) != (b[k].toNat : Int)) = false) : a.data.toList.getD k 0 = b.data.toList.getD k 0 := by
  rw [getD_at a k ha, getD_at b k hb]
  have h1 : (a[k].toNat : Int) = (b[k].toNat : Int) := by simpa using h
  exact UInt8.toNat_inj.1 (by omega)

theorem other_of {a b : ByteArray} {k : Nat} (ha : k < a.size) (hb : k < b.size) (h : ((a[k].toNat : Int) != (b[k].toNat : Int)) = true) : a.data.toList.getD k 0 ≠ b.data.toList.getD k 0 := by
  rw [getD_at a k ha, getD_at b k hb]
  intro e
  rw [e] at h
  simp at h

def ComRel (a b : ByteArray) (w : World) (i : Value) (wr : World) : Prop :=
  ∃ k n : Nat, k ≤ a.size ∧ k ≤ b.size ∧ i = .int .i64 (k : Int) ∧ (∀ j, j < k → a.data.toList.getD j 0 = b.data.toList.getD j 0) ∧ wr = w.drewN n

set_option maxHeartbeats 400000 in
/-- keys.Common: it only reads. -/
theorem common_any (a b : ByteArray) (w : World) (ha : a.size ≤ 140737488355328) (hb : b.size ≤ 140737488355328) :
    Calls Try.prog 13 #[.string a, .string b] w fun e w' => e = .returned (.int .i64 (com a.data.toList b.data.toList)) ∧ ∃ n, w' = w.drewN n := by
  go_enter Try.func13, Try.ntmps13
  go_wp2
  go_loopw [13] (fun i wr => ComRel a b w i wr) (fun i _ => a.size - (intOf i).toNat)
  case atStart => exact ⟨0, 0, Nat.zero_le _, Nat.zero_le _, rfl, fun j hj => by omega, rfl⟩
  case round =>
    obtain ⟨k, n, hka, hkb, rfl, hs, rfl⟩ := hrel
    have HS := Lib.hid hs
    clear hs
    by_cases hlt : k < a.size ∧ k < b.size
    · obtain ⟨h1, h2⟩ := hlt
      have hm : (k : Int) < min (a.size : Int) (b.size : Int) := by omega
      go_wp2
      go_quiet (fail)
      go_wp2
      · have hne : ((a[k].toNat : Int) != (b[k].toNat : Int)) = true := by assumption
        go_ret
        exact ⟨ret_int (by rw [com_of k _ _ (by simpa using hka) (by simpa using hkb) HS.out (.inr (.inr (other_of h1 h2 hne)))]), n + nq, World.drewN_drewN _ _ _⟩
      · have hne : ((a[k].toNat : Int) != (b[k].toNat : Int)) = false := by assumption
        refine ⟨⟨k + 1, n + nq, by omega, by omega, by go_num, fun j hj => ?_, rfl⟩, by simp [intOf]; omega⟩
        by_cases e : j = k
        · subst e; exact alike_of h1 h2 hne
        · exact HS.out j (by omega)
    · have hm : ¬ (k : Int) < min (a.size : Int) (b.size : Int) := by omega
      go_wp2
      go_ret
      refine ⟨ret_int ?_, n, rfl⟩
      rw [com_of k _ _ (by simpa using hka) (by simpa using hkb) HS.out (by simp; omega)]
      omega

theorem between_no (a b : ByteArray) (w : World) (h : 0 ≤ cmp a.data.toList b.data.toList) :
    Calls Try.prog 11 #[.string a, .string b] w fun e w' => e = .returned (.tuple #[.string ⟨#[]⟩, .bool false]) ∧ w = w' := by
  go_enter Try.func11, Try.ntmps11
  go_wp2_with (go_at_call 12; refine (compare_any _ _ _).mono ?_; rintro e w' ⟨rfl, rfl⟩)
  go_ret2
  exact ⟨rfl, rfl⟩

theorem between_yes (a b : ByteArray) (w : World) (ha : a.size ≤ 140737488355328) (hb : b.size ≤ 140737488355328) (h : cmp a.data.toList b.data.toList < 0)
    (hc : com a.data.toList b.data.toList < b.size) :
    Calls Try.prog 11 #[.string a, .string b] w fun e w' => e = .returned (.tuple #[.string (b.extract 0 (com a.data.toList b.data.toList + 1)), .bool true]) ∧ Below w.heap.size w w' := by
  go_enter Try.func11, Try.ntmps11
  go_wp2_with (go_at_call 12; refine (compare_any _ _ _).mono ?_; rintro e w' ⟨rfl, rfl⟩)
  refine (common_any _ _ _ ha hb).mono ?_
  rintro e w' ⟨rfl, n, rfl⟩
  go_wp2_with fail
  refine (clone_any _ _ ?_).mono ?_
  · rw [ByteArray.size_extract]; omega
  rintro e w' ⟨rfl, hB⟩
  go_wp2
  go_ret2
  exact ⟨rfl, below_of_drewN hB⟩
end Go.Proofs.Ytnlmeeijellfaaa
