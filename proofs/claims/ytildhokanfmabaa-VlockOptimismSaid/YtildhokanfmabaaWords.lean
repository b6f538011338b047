/-
  Words: their lock, their death, their version, and what becomes of them; as the walks spell the bits.
-/
import Derived.Laws.Bits64b
import Derived.Laws.BitsAllLaws
namespace Go.Proofs.Ytildhokanfmabaa
open Go

def lck (w : Nat) : Bool := decide (w % 2 = 1)
def ded (w : Nat) : Bool := decide (w / 2 % 2 = 1)
def opn (w : Nat) : Bool := !lck w && !ded w
def unl (w : Nat) : Nat := if w % 2 = 1 then (w - 1 + 4) % 18446744073709551616 else w
def kil (w : Nat) : Nat := if w / 2 % 2 = 1 then w - w % 2 else (w - w % 2 + 4) % 18446744073709551616 + 2

theorem lck_t {w : Nat} (h : w % 2 = 1) : lck w = true := by simp [lck, h]
theorem lck_f {w : Nat} (h : w % 2 = 0) : lck w = false := by simp [lck, h]
theorem ded_t {w : Nat} (h : w / 2 % 2 = 1) : ded w = true := by simp [ded, h]
theorem ded_f {w : Nat} (h : w / 2 % 2 = 0) : ded w = false := by simp [ded, h]

theorem and_two (w : Nat) : w &&& 2 = w / 2 % 2 * 2 := by
  apply Nat.eq_of_testBit_eq
  intro i
  rw [Nat.testBit_and]
  match i with
  | 0 => simp [Nat.testBit_zero]
  | 1 => simp only [Nat.testBit_succ, Nat.testBit_zero]; by_cases h : w / 2 % 2 = 1 <;> simp [h] <;> omega
  | n + 2 =>
    have e1 : (2 : Nat).testBit (n + 2) = false := by simp [Nat.testBit_succ]
    have e2 : (w / 2 % 2 * 2).testBit (n + 2) = false := by
      simp [Nat.testBit_succ]
    rw [e1, e2, Bool.and_false]

theorem and_not_one (w : Nat) (h : w < 18446744073709551616) : w &&& 18446744073709551614 = w - w % 2 := by
  have e : w / 2 &&& 9223372036854775807 = w / 2 := by
    have := Nat.and_two_pow_sub_one_eq_mod (w / 2) 63
    simp only [Nat.reducePow, Nat.reduceSub] at this
    rw [this]; omega
  apply Nat.eq_of_testBit_eq
  intro i
  rw [Nat.testBit_and]
  match i with
  | 0 =>
    have : (w - w % 2) % 2 = 0 := by omega
    simp [Nat.testBit_zero, this]
  | n + 1 =>
    have e2 : (w - w % 2) / 2 = w / 2 := by omega
    have e3 : (18446744073709551614 : Nat) / 2 = 9223372036854775807 := by decide
    rw [Nat.testBit_succ, Nat.testBit_succ, Nat.testBit_succ, e2, e3, ← Nat.testBit_and, e]

theorem or_one (w : Nat) (h : w % 2 = 0) : w ||| 1 = w + 1 := by
  have := Nat.two_pow_add_eq_or_of_lt (i := 1) (b := 1) (by decide) (w / 2)
  simp only [Nat.reducePow] at this
  rw [show 2 * (w / 2) = w by omega] at this
  exact this.symm
theorem or_two (w : Nat) (h : w % 4 = 0) : w ||| 2 = w + 2 := by
  have := Nat.two_pow_add_eq_or_of_lt (i := 2) (b := 2) (by decide) (w / 4)
  simp only [Nat.reducePow] at this
  rw [show 4 * (w / 4) = w by omega] at this
  exact this.symm

theorem b_and1 (w : Nat) (h : w < 18446744073709551616) : bits .and .u64 (w : Int) 1 = ((w % 2 : Nat) : Int) := by
  rw [show (1 : Int) = ((1 : Nat) : Int) from rfl, bits_and_u64_nat w 1 h (by decide), Nat.and_one_is_mod]
theorem b_and2 (w : Nat) (h : w < 18446744073709551616) : bits .and .u64 (w : Int) 2 = ((w / 2 % 2 * 2 : Nat) : Int) := by
  rw [show (2 : Int) = ((2 : Nat) : Int) from rfl, bits_and_u64_nat w 2 h (by decide), and_two]
theorem b_or1 (w : Nat) (h : w < 18446744073709551616) (h0 : w % 2 = 0) : bits .or .u64 (w : Int) 1 = ((w + 1 : Nat) : Int) := by
  rw [show (1 : Int) = ((1 : Nat) : Int) from rfl, bits_or_u64_nat w 1 h (by decide), or_one w h0]
theorem b_or2 (w : Nat) (h : w < 18446744073709551616) (h0 : w % 4 = 0) : bits .or .u64 (w : Int) 2 = ((w + 2 : Nat) : Int) := by
  rw [show (2 : Int) = ((2 : Nat) : Int) from rfl, bits_or_u64_nat w 2 h (by decide), or_two w h0]
theorem b_not1 (w : Nat) (h : w < 18446744073709551616) : bits .andNot .u64 (w : Int) 1 = ((w - w % 2 : Nat) : Int) := by
  rw [show (1 : Int) = ((1 : Nat) : Int) from rfl, u64_andNot_nat w 1 h (by decide)]
  rw [show (18446744073709551615 - 1 : Nat) = 18446744073709551614 from rfl, and_not_one w h]
theorem b_and62 (w : Nat) (h : w < 18446744073709551616) : bits .and .u64 (w : Int) 4611686018427387903 = ((w % 4611686018427387904 : Nat) : Int) := by
  rw [show (4611686018427387903 : Int) = ((4611686018427387903 : Nat) : Int) from rfl, bits_and_u64_nat w 4611686018427387903 h (by decide)]
  have := Nat.and_two_pow_sub_one_eq_mod w 62
  simp only [Nat.reducePow, Nat.reduceSub] at this
  rw [this]
theorem wrap_add (x c : Nat) : IntKind.u64.wrap ((x : Int) + (c : Int)) = (((x + c) % 18446744073709551616 : Nat) : Int) := by
  rw [IntKind.wrap_u64]; omega
theorem unl_lt {w : Nat} (h : w < 18446744073709551616) : unl w < 18446744073709551616 := by unfold unl; split <;> omega
theorem kil_lt {w : Nat} (h : w < 18446744073709551616) : kil w < 18446744073709551616 := by unfold kil; split <;> omega
end Go.Proofs.Ytildhokanfmabaa
