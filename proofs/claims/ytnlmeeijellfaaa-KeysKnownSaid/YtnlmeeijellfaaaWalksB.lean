/-
  What keys.Slice and keys.Unslice come to, and that the law's own look (awake) answers true.
-/
import Derived.Test.YtnlmeeijellfaaaWalksA
namespace Go.Proofs.Ytnlmeeijellfaaa
open Go.RowKit
open Math
set_option linter.unusedVariables false

theorem slicesOf_any (s : ByteArray) (w : World) (hs : s.size ≤ 140737488355328) :
    Calls Try.prog 27 #[.string s] w fun e w' => e = .returned (.int .i64 (((s.size : Int) + 7) / 8)) ∧ w = w' := by
  go_enter Try.func27, Try.ntmps27
  go_wp2
  go_ret
  exact ⟨ret_int (by omega), rfl⟩

/-- The number of the first k bytes of a list, the first byte highest; what is missing counts as 0. -/
def vk (l : List UInt8) : Nat → Nat
  | 0 => 0
  | k + 1 => vk l k * 256 + (l.getD k 0).toNat


theorem vk_lt (l : List UInt8) : ∀ k, vk l k < 256 ^ k
  | 0 => by simp [vk]
  | k + 1 => by
    have := vk_lt l k
    have hb : (l.getD k 0).toNat < 256 := UInt8.toNat_lt _
    rw [vk, Nat.pow_succ]
    omega

/-- The number of the first k bytes of slice i of a text. -/
def sv (s : ByteArray) (i k : Nat) : Nat := vk (s.data.toList.drop (8 * i)) k

theorem sv_lt (s : ByteArray) (i k : Nat) (h : k < 8) : sv s i k < 72057594037927936 := by
  have h1 := vk_lt (s.data.toList.drop (8 * i)) k
  have h2 : 256 ^ k ≤ 256 ^ 7 := Nat.pow_le_pow_right (by omega) (by omega)
  have h3 : (256 : Nat) ^ 7 = 72057594037927936 := by decide
  unfold sv
  omega

theorem or_nat (y b : Nat) (hy : y < 18446744073709551616) (hb : b < 256) (hd : y ||| b = y + b) : bits .or .u64 (y : Int) (IntKind.u64.wrap (b : Int)) = ((y + b : Nat) : Int) := by
  have e1 : IntKind.u64.wrap (b : Int) = (b : Int) := by rw [IntKind.wrap_u64]; omega
  rw [e1, bits_or_u64_nat y b hy (by omega), hd]

theorem or_sum (x b : Nat) (hb : b < 256) : x * 256 ||| b = x * 256 + b := by
  have h := Nat.two_pow_add_eq_or_of_lt (i := 8) (b := b) hb x
  have e : 2 ^ 8 * x = x * 256 := Nat.mul_comm _ _
  rw [e] at h
  exact h.symm

theorem or_byte (x b : Nat) (hx : x < 72057594037927936) (hb : b < 256) : bits .or .u64 ((x : Int) * 256) (IntKind.u64.wrap (b : Int)) = ((x * 256 + b : Nat) : Int) := by
  have hs := or_sum x b hb
  obtain ⟨y, hy⟩ : ∃ y, y = x * 256 := ⟨_, rfl⟩
  have e2 : ((x : Int) * 256) = (y : Int) := by omega
  rw [← hy] at hs
  rw [e2, ← hy]
  exact or_nat y b (by omega) hb hs

theorem getD_drop (l : List UInt8) (n k : Nat) : (l.drop n).getD k 0 = l.getD (n + k) 0 := by simp [List.getD]

theorem sv_succ_in (s : ByteArray) (i k : Nat) (hi : 8 * i < s.size) (h : k < s.size - 8 * i) (h' : k < (s.extract (8 * i) s.size).size) : sv s i (k + 1) = sv s i k * 256 + (s.extract (8 * i) s.size)[k].toNat := by
  unfold sv
  rw [vk, getD_drop, getD_at s _ (by omega), ByteArray.getElem_extract]

theorem sv_succ_out (s : ByteArray) (i k : Nat) (h : ¬ k < s.size - 8 * i) : sv s i (k + 1) = sv s i k * 256 := by
  unfold sv
  rw [vk, getD_drop]
  have : s.data.toList.getD (8 * i + k) 0 = 0 := by
    rw [List.getD, List.getElem?_eq_none (by have : s.data.toList.length = s.size := Array.length_toList; omega)]
    rfl
  rw [this]
  simp

set_option maxHeartbeats 400000 in
theorem slice_yes (s : ByteArray) (i : Nat) (w : World) (hs : s.size ≤ 140737488355328) (hi : 8 * i < s.size) :
    Calls Try.prog 15 #[.string s, .int .i64 (i : Int)] w fun e w' => e = .returned (.tuple #[.int .u64 (sv s i 8 : Nat), .int .i64 (min (s.size - 8 * i) 9 : Nat)]) ∧ w = w' := by
  have d1 : decide ((i : Int) < 0) = false := by simp
  have d2 : decide (((s.size : Int) + 7) / 8 ≤ (i : Int)) = false := by simp; omega
  go_enter Try.func15, Try.ntmps15
  go_wp2_with (go_at_call 27; refine (slicesOf_any _ _ hs).mono ?_; rintro e w' ⟨rfl, rfl⟩)
  clear d1 d2
  go_loop [4, 20] (fun n c => ∃ k : Nat, k ≤ 8 ∧ c = .int .i64 (k : Int) ∧ n = .int .u64 (sv s i k : Nat)) (fun _ c => 8 - (intOf c).toNat)
  case atStart => exact ⟨0, by omega, rfl, rfl⟩
  case round =>
    obtain ⟨k, hk, rfl, rfl⟩ := hrel
    by_cases h8 : k < 8
    · have hlt := sv_lt s i k h8
      go_wp2
      · have hin : k < s.size - 8 * i := by assumption
        have hin' : k < (s.extract (8 * i) s.size).size := by rw [ByteArray.size_extract]; omega
        have hb : (s.extract (8 * i) s.size)[k].toNat < 256 := UInt8.toNat_lt _
        refine ⟨⟨k + 1, by omega, by go_num, ?_⟩, by simp [intOf]; omega⟩
        rw [or_byte _ _ hlt hb, sv_succ_in s i k hi hin hin']
      · have hout : ¬ k < s.size - 8 * i := by assumption
        refine ⟨⟨k + 1, by omega, by go_num, ?_⟩, by simp [intOf]; omega⟩
        rw [sv_succ_out s i k hout]
        go_num
    · go_wp2
      go_ret2
      obtain rfl : k = 8 := by omega
      have hm : min ((s.size - 8 * i : Nat) : Int) 9 = ((min (s.size - 8 * i) 9 : Nat) : Int) := by omega
      refine ⟨?_, rfl⟩
      rw [← hm]
      rfl

theorem slice_no (s : ByteArray) (i : Int) (w : World) (hs : s.size ≤ 140737488355328) (hi : i < 0 ∨ (s.size : Int) ≤ 8 * i) :
    Calls Try.prog 15 #[.string s, .int .i64 i] w fun e w' => e = .returned (.tuple #[.int .u64 0, .int .i64 0]) ∧ w = w' := by
  rcases hi with hi | hi
  · have d1 : decide (i < 0) = true := by simpa using hi
    go_enter Try.func15, Try.ntmps15
    go_wp2_with (go_at_call 27; refine (slicesOf_any _ _ hs).mono ?_; rintro e w' ⟨rfl, rfl⟩)
    go_ret2
    exact ⟨rfl, rfl⟩
  · have d1 : decide (i < 0) = false := by simp; omega
    have d2 : decide (((s.size : Int) + 7) / 8 ≤ i) = true := by simp; omega
    go_enter Try.func15, Try.ntmps15
    go_wp2_with (go_at_call 27; refine (slicesOf_any _ _ hs).mono ?_; rintro e w' ⟨rfl, rfl⟩)
    go_ret2
    exact ⟨rfl, rfl⟩

theorem compare_is (a b : ByteArray) (c : Int) (h : cmp a.data.toList b.data.toList = c) (w : World) :
    Calls Try.prog 12 #[.string a, .string b] w fun e w' => e = .returned (.int .i64 c) ∧ w = w' := by
  subst h; exact compare_any a b w

theorem slice_is (s : ByteArray) (i : Nat) (n c : Nat) (w : World) (hs : s.size ≤ 140737488355328) (hi : 8 * i < s.size) (hn : sv s i 8 = n) (hc : min (s.size - 8 * i) 9 = c) :
    Calls Try.prog 15 #[.string s, .int .i64 (i : Int)] w fun e w' => e = .returned (.tuple #[.int .u64 (n : Int), .int .i64 (c : Int)]) ∧ w = w' := by
  subst hn hc; exact slice_yes s i w hs hi

theorem awake_any (w : World) : Calls Try.prog 17 #[] w fun e w' => e = .returned (.bool true) ∧ w = w' := by
  go_enter Try.func17, Try.ntmps17
  go_wp2_with fail
  refine (slice_is _ 0 7017171169396654080 2 _ (by decide) (by decide) (by decide +kernel) (by decide)).mono ?_
  rintro e w' ⟨rfl, rfl⟩
  go_wp2_with fail
  refine (compare_is _ _ (-1) (by decide) _).mono ?_
  rintro e w' ⟨rfl, rfl⟩
  go_wp2_with fail
  refine (compare_is _ _ 1 (by decide) _).mono ?_
  rintro e w' ⟨rfl, rfl⟩
  go_wp2_with fail
  go_ret
  exact ⟨rfl, rfl⟩
end Go.Proofs.Ytnlmeeijellfaaa
