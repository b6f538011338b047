/-
  What the functions on words come to: the world stays as it is.
-/
import Derived.Test.YtildhokanfmabaaProg
import Derived.Test.YtildhokanfmabaaMem
import Derived.Test.YtildhokanfmabaaWords
import Derived.WalkKit
import Derived.WalkSpells
import Derived.WalkLawsBesides
import Derived.Deep.QuietTactic
import Derived.BigQuiet
import Derived.RegionTactic
import Derived.BigRegion
import Derived.ChangeAlike
import Derived.Lib.Hide
import Derived.Outline
namespace Go.Proofs.Ytildhokanfmabaa
open Go.RowKit
set_option linter.unusedVariables false

theorem lck_ne (w : Nat) : ((w : Int) % 2 != 0) = lck w := by
  rcases Nat.mod_two_eq_zero_or_one w with h | h
  · have e : (w : Int) % 2 = 0 := by omega
    simp [lck, h, e]
  · have e : (w : Int) % 2 = 1 := by omega
    simp [lck, h, e]
theorem ded_ne (w : Nat) : ((w : Int) / 2 % 2 * 2 != 0) = ded w := by
  rcases Nat.mod_two_eq_zero_or_one (w / 2) with h | h
  · have e : (w : Int) / 2 % 2 = 0 := by omega
    simp [ded, h, e]
  · have e : (w : Int) / 2 % 2 = 1 := by omega
    simp [ded, h, e]

theorem version_any (w : Nat) (hw : w < 18446744073709551616) (W : World) : Calls Try.prog 21 #[.int .u64 w] W fun e W' => e = .returned (.int .u64 (w / 4 : Nat)) ∧ W' = W := by
  go_enter Try.func21, Try.ntmps21
  go_wp2
  go_ret
  exact ⟨rfl, rfl⟩

theorem locked_any (w : Nat) (hw : w < 18446744073709551616) (W : World) : Calls Try.prog 22 #[.int .u64 w] W fun e W' => e = .returned (.bool (lck w)) ∧ W' = W := by
  have b1 := b_and1 w hw
  have b2 := lck_ne w
  go_enter Try.func22, Try.ntmps22
  go_wp2
  go_ret
  exact ⟨rfl, rfl⟩

theorem dead_any (w : Nat) (hw : w < 18446744073709551616) (W : World) : Calls Try.prog 23 #[.int .u64 w] W fun e W' => e = .returned (.bool (ded w)) ∧ W' = W := by
  have b1 := b_and2 w hw
  have b2 := ded_ne w
  go_enter Try.func23, Try.ntmps23
  go_wp2
  go_ret
  exact ⟨rfl, rfl⟩

theorem open_any (w : Nat) (hw : w < 18446744073709551616) (W : World) : Calls Try.prog 29 #[.int .u64 w] W fun e W' => e = .returned (.bool (opn w)) ∧ W' = W := by
  have L := Lib.hid (locked_any w hw W)
  have K := Lib.hid (dead_any w hw W)
  unfold opn
  cases h : lck w <;> rw [h] at L
  · go_enter Try.func29, Try.ntmps29
    go_wp2_with fail
    refine L.out.mono ?_
    rintro _ _ ⟨rfl, rfl⟩
    go_wp2_with fail
    refine K.out.mono ?_
    rintro _ _ ⟨rfl, rfl⟩
    go_wp2_with fail
    go_ret
    exact ⟨rfl, rfl⟩
  · go_enter Try.func29, Try.ntmps29
    go_wp2_with fail
    refine L.out.mono ?_
    rintro _ _ ⟨rfl, rfl⟩
    go_wp2_with fail
    go_ret
    exact ⟨rfl, rfl⟩

theorem held_any (w : Nat) (hw : w < 18446744073709551616) (W : World) : Calls Try.prog 32 #[.int .u64 w] W fun e W' => e = .returned (.bool (lck w && !ded w)) ∧ W' = W := by
  have L := Lib.hid (locked_any w hw W)
  have K := Lib.hid (dead_any w hw W)
  cases h : lck w <;> rw [h] at L
  · go_enter Try.func32, Try.ntmps32
    go_wp2_with fail
    refine L.out.mono ?_
    rintro _ _ ⟨rfl, rfl⟩
    go_wp2_with fail
    go_ret
    exact ⟨rfl, rfl⟩
  · go_enter Try.func32, Try.ntmps32
    go_wp2_with fail
    refine L.out.mono ?_
    rintro _ _ ⟨rfl, rfl⟩
    go_wp2_with fail
    refine K.out.mono ?_
    rintro _ _ ⟨rfl, rfl⟩
    go_wp2_with fail
    go_ret
    exact ⟨rfl, rfl⟩

theorem begin_any (w : Nat) (hw : w < 18446744073709551616) (W : World) : Calls Try.prog 9 #[.int .u64 w] W fun e W' => e = .returned (.tuple #[.int .u64 ((if opn w then w else 0 : Nat) : Int), .bool (opn w)]) ∧ W' = W := by
  have L := Lib.hid (open_any w hw W)
  cases h : opn w <;> rw [h] at L
  · go_enter Try.func9, Try.ntmps9
    go_wp2_with fail
    refine L.out.mono ?_
    rintro _ _ ⟨rfl, rfl⟩
    go_wp2_with fail
    go_ret2
    exact ⟨rfl, rfl⟩
  · go_enter Try.func9, Try.ntmps9
    go_wp2_with fail
    refine L.out.mono ?_
    rintro _ _ ⟨rfl, rfl⟩
    go_wp2_with fail
    go_ret2
    exact ⟨rfl, rfl⟩

theorem valid_any (w v : Nat) (hw : w < 18446744073709551616) (W : World) : Calls Try.prog 11 #[.int .u64 w, .int .u64 v] W fun e W' => e = .returned (.bool (opn w && decide (w = v))) ∧ W' = W := by
  have L := Lib.hid (open_any w hw W)
  have e1 : ((w : Int) == (v : Int)) = decide (w = v) := by
    by_cases h : w = v
    · subst h; simp
    · have : ¬ (w : Int) = (v : Int) := by omega
      simp [h, this]
  cases h : opn w <;> rw [h] at L
  · go_enter Try.func11, Try.ntmps11
    go_wp2_with fail
    refine L.out.mono ?_
    rintro _ _ ⟨rfl, rfl⟩
    go_wp2_with fail
    go_ret
    exact ⟨rfl, rfl⟩
  · go_enter Try.func11, Try.ntmps11
    go_wp2_with fail
    refine L.out.mono ?_
    rintro _ _ ⟨rfl, rfl⟩
    go_wp2_with fail
    go_ret
    exact ⟨rfl, rfl⟩

theorem opn_mod {w : Nat} : opn w = true ↔ w % 4 = 0 := by
  simp only [opn, lck, ded, Bool.and_eq_true, Bool.not_eq_true', decide_eq_false_iff_not]
  omega

theorem lock_any (w : Nat) (hw : w < 18446744073709551616) (W : World) : Calls Try.prog 10 #[.int .u64 w] W fun e W' => e = .returned (.tuple #[.int .u64 ((if opn w then w + 1 else w : Nat) : Int), .bool (opn w)]) ∧ W' = W := by
  have L := Lib.hid (open_any w hw W)
  cases h : opn w <;> rw [h] at L
  · go_enter Try.func10, Try.ntmps10
    go_wp2_with fail
    refine L.out.mono ?_
    rintro _ _ ⟨rfl, rfl⟩
    go_wp2_with fail
    go_ret2
    exact ⟨rfl, rfl⟩
  · have b := b_or1 w hw (by have := opn_mod.1 h; omega)
    go_enter Try.func10, Try.ntmps10
    go_wp2_with fail
    refine L.out.mono ?_
    rintro _ _ ⟨rfl, rfl⟩
    go_wp2_with fail
    go_ret2
    exact ⟨rfl, rfl⟩

theorem unlock_any (w : Nat) (hw : w < 18446744073709551616) (W : World) : Calls Try.prog 12 #[.int .u64 w] W fun e W' => e = .returned (.int .u64 (unl w : Nat)) ∧ W' = W := by
  have L := Lib.hid (locked_any w hw W)
  rcases Nat.mod_two_eq_zero_or_one w with h | h
  · rw [lck_f h] at L
    have e : unl w = w := by simp [unl, h]
    rw [e]
    go_enter Try.func12, Try.ntmps12
    go_wp2_with fail
    refine L.out.mono ?_
    rintro _ _ ⟨rfl, rfl⟩
    go_wp2_with fail
    go_ret
    exact ⟨rfl, rfl⟩
  · rw [lck_t h] at L
    have b := b_not1 w hw
    have b2 : IntKind.u64.wrap (((w - w % 2 : Nat) : Int) + 4) = ((unl w : Nat) : Int) := by
      rw [show (4 : Int) = ((4 : Nat) : Int) from rfl, wrap_add]
      simp [unl, h]
    generalize w - w % 2 = u at b b2
    go_enter Try.func12, Try.ntmps12
    go_wp2_with fail
    refine L.out.mono ?_
    rintro _ _ ⟨rfl, rfl⟩
    go_wp2_with fail
    go_ret
    exact ⟨rfl, rfl⟩

theorem kill_any (w : Nat) (hw : w < 18446744073709551616) (W : World) : Calls Try.prog 13 #[.int .u64 w] W fun e W' => e = .returned (.int .u64 (kil w : Nat)) ∧ W' = W := by
  have L := Lib.hid (dead_any (w - w % 2) (by omega) W)
  have b := b_not1 w hw
  rcases Nat.mod_two_eq_zero_or_one (w / 2) with h | h
  · rw [ded_f (by omega)] at L
    have b2 : IntKind.u64.wrap (((w - w % 2 : Nat) : Int) + 4) = (((w - w % 2 + 4) % 18446744073709551616 : Nat) : Int) := by
      rw [show (4 : Int) = ((4 : Nat) : Int) from rfl, wrap_add]
    have b3 := b_or2 ((w - w % 2 + 4) % 18446744073709551616) (by omega) (by omega)
    have e : kil w = (w - w % 2 + 4) % 18446744073709551616 + 2 := by simp [kil, h]
    rw [← e] at b3
    clear e
    generalize (w - w % 2 + 4) % 18446744073709551616 = v at b2 b3
    generalize w - w % 2 = u at b b2 L
    go_enter Try.func13, Try.ntmps13
    go_wp2_with fail
    refine L.out.mono ?_
    rintro _ _ ⟨rfl, rfl⟩
    go_wp2_with fail
    go_ret
    exact ⟨rfl, rfl⟩
  · rw [ded_t (by omega)] at L
    have e : kil w = w - w % 2 := by simp [kil, h]
    rw [← e] at b L
    generalize kil w = u at b L
    go_enter Try.func13, Try.ntmps13
    go_wp2_with fail
    refine L.out.mono ?_
    rintro _ _ ⟨rfl, rfl⟩
    go_wp2_with fail
    go_ret
    exact ⟨rfl, rfl⟩

theorem giveNext_any (w : Nat) (hw : w < 18446744073709551616) (W : World) : Calls Try.prog 31 #[.int .u64 w] W fun e W' => e = .returned (.tuple #[.int .u64 ((unl w : Nat) : Int), .bool (lck w && !ded w)]) ∧ W' = W := by
  have L := Lib.hid (unlock_any w hw W)
  have K := Lib.hid (held_any w hw W)
  go_enter Try.func31, Try.ntmps31
  go_wp2_with fail
  refine L.out.mono ?_
  rintro _ _ ⟨rfl, rfl⟩
  go_wp2_with fail
  refine K.out.mono ?_
  rintro _ _ ⟨rfl, rfl⟩
  go_wp2_with fail
  go_ret2
  exact ⟨rfl, rfl⟩

theorem endNext_any (w : Nat) (hw : w < 18446744073709551616) (W : World) : Calls Try.prog 34 #[.int .u64 w] W fun e W' => e = .returned (.tuple #[.int .u64 ((kil w : Nat) : Int), .bool (lck w && !ded w)]) ∧ W' = W := by
  have L := Lib.hid (kill_any w hw W)
  have K := Lib.hid (held_any w hw W)
  go_enter Try.func34, Try.ntmps34
  go_wp2_with fail
  refine L.out.mono ?_
  rintro _ _ ⟨rfl, rfl⟩
  go_wp2_with fail
  refine K.out.mono ?_
  rintro _ _ ⟨rfl, rfl⟩
  go_wp2_with fail
  go_ret2
  exact ⟨rfl, rfl⟩
end Go.Proofs.Ytildhokanfmabaa
