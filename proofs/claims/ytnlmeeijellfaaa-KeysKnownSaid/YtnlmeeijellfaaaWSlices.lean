/-
  The walk of the law KeysSlices, and of the document's own answers that it calls: it returns true and turns nothing that was there; for texts of at most 2^47 bytes, every number, slice and class.
-/
import Derived.Test.YtnlmeeijellfaaaWUn
namespace Go.Proofs.Ytnlmeeijellfaaa
open Go.RowKit
open Math
set_option linter.unusedVariables false

theorem sv_succ_at (s : ByteArray) (i k : Nat) (h : 8 * i + k < s.size) : sv s i (k + 1) = sv s i k * 256 + s[8 * i + k].toNat := by
  unfold sv
  rw [vk, getD_drop, getD_at s _ h]

theorem add_byte (x b : Nat) (hx : x < 72057594037927936) (hb : b < 256) : IntKind.u64.wrap ((x : Int) * 256 + IntKind.u64.wrap (b : Int)) = ((x * 256 + b : Nat) : Int) := by
  rw [IntKind.wrap_u64, IntKind.wrap_u64]
  omega

set_option maxHeartbeats 400000 in
theorem refslice_yes (s : ByteArray) (i : Nat) (w : World) (hs : s.size ≤ 140737488355328) (hi : 8 * i < s.size) :
    Calls Try.prog 23 #[.string s, .int .i64 (i : Int)] w fun e w' => e = .returned (.tuple #[.int .u64 (sv s i 8 : Nat), .int .i64 (min (s.size - 8 * i) 9 : Nat)]) ∧ w = w' := by
  have d1 : decide ((i : Int) < 0) = false := by simp
  have d2 : decide ((s.size : Int) < (i : Int)) = false := by simp; omega
  have d2' : decide (s.size < i) = false := by simp; omega
  have d3 : decide ((s.size : Int) ≤ 8 * (i : Int)) = false := by simp; omega
  go_enter Try.func23, Try.ntmps23
  go_wp2
  clear d1 d2 d2' d3
  go_loop [6, 7] (fun n c => ∃ j : Nat, j ≤ 8 ∧ c = .int .i64 (8 * (i : Int) + (j : Int)) ∧ n = .int .u64 (sv s i j : Nat)) (fun _ c => 8 * i + 8 - (intOf c).toNat)
  case atStart => exact ⟨0, by omega, by go_num, rfl⟩
  case round =>
    obtain ⟨k, hk, rfl, rfl⟩ := hrel
    by_cases h8 : k < 8
    · have hlt := sv_lt s i k h8
      have d4 : decide (8 * (i : Int) + (k : Int) < 8 * (i : Int) + 8) = true := by simp; omega
      by_cases hin : 8 * i + k < s.size
      · have d5 : decide (8 * (i : Int) + (k : Int) < (s.size : Int)) = true := by simp; omega
        have hb : s[8 * i + k].toNat < 256 := UInt8.toNat_lt _
        have hb' := add_byte _ _ hlt hb
        have HB := Lib.hid hb'
        clear hb' hb
        go_wp2
        refine ⟨⟨k + 1, by omega, by go_num, ?_⟩, by simp [intOf]; omega⟩
        rw [HB.out, sv_succ_at s i k hin]
      · have d5 : decide (8 * (i : Int) + (k : Int) < (s.size : Int)) = false := by simp; omega
        have hout : ¬ k < s.size - 8 * i := by omega
        go_wp2
        refine ⟨⟨k + 1, by omega, by go_num, ?_⟩, by simp [intOf]; omega⟩
        rw [sv_succ_out s i k hout]
        go_num
    · obtain rfl : k = 8 := by omega
      go_wp2
      · have h9 : 9 < (s.size : Int) - 8 * (i : Int) := by assumption
        have hm : min (s.size - 8 * i) 9 = 9 := by omega
        go_ret2
        rw [hm]
        exact ⟨rfl, rfl⟩
      · have h9 : (s.size : Int) - 8 * (i : Int) ≤ 9 := by assumption
        have hm : ((min (s.size - 8 * i) 9 : Nat) : Int) = (s.size : Int) - 8 * (i : Int) := by omega
        go_ret2
        rw [hm]
        exact ⟨rfl, rfl⟩

theorem refslice_no (s : ByteArray) (i : Int) (w : World) (hs : s.size ≤ 140737488355328) (hi : i < 0 ∨ (s.size : Int) ≤ 8 * i) :
    Calls Try.prog 23 #[.string s, .int .i64 i] w fun e w' => e = .returned (.tuple #[.int .u64 0, .int .i64 0]) ∧ w = w' := by
  by_cases h1 : i < 0
  · have d1 : decide (i < 0) = true := by simpa using h1
    go_enter Try.func23, Try.ntmps23
    go_wp2
    go_ret2
    exact ⟨rfl, rfl⟩
  · have d1 : decide (i < 0) = false := by simp; omega
    by_cases h2 : (s.size : Int) < i
    · have d2 : decide ((s.size : Int) < i) = true := by simpa using h2
      go_enter Try.func23, Try.ntmps23
      go_wp2
      go_ret2
      exact ⟨rfl, rfl⟩
    · have d2 : decide ((s.size : Int) < i) = false := by simpa using h2
      have d3 : decide ((s.size : Int) ≤ 8 * i) = true := by simp; omega
      go_enter Try.func23, Try.ntmps23
      go_wp2
      go_ret2
      exact ⟨rfl, rfl⟩

/-- The eight cells when the last j bytes stand: what is not yet written is 0. -/
def ys (n j : Nat) : List Value := (List.range 8).map fun p => if 8 - j ≤ p then byteVal (ub n p) else .int .u8 0

theorem ys_len (n j : Nat) : (ys n j).length = 8 := by simp [ys]
theorem ys_zero (n : Nat) : ys n 0 = List.replicate 8 (.int .u8 0) := by
  apply List.ext_getElem
  · simp [ys]
  · intro p h1 h2
    have hp : p < 8 := by rw [ys_len] at h1; exact h1
    simp only [ys, List.getElem_map, List.getElem_range, List.getElem_replicate]
    rw [if_neg (by omega)]
theorem ys_full (n : Nat) : ys n 8 = (ubs n 8).map byteVal := by
  simp [ys, ubs]
theorem ys_set (n j : Nat) (h : j < 8) : (ys n j).set (7 - j) (byteVal (ub n (7 - j))) = ys n (j + 1) := by
  apply List.ext_getElem
  · simp [ys]
  · intro p h1 h2
    have hp : p < 8 := by rw [ys_len] at h2; exact h2
    rw [List.getElem_set]
    simp only [ys, List.getElem_map, List.getElem_range]
    by_cases e : 7 - j = p
    · rw [if_pos e, if_pos (by omega), e]
    · rw [if_neg e]
      by_cases g : 8 - j ≤ p
      · rw [if_pos g, if_pos (by omega)]
      · rw [if_neg g, if_neg (by omega)]

/-- What is left of a number when j bytes are taken off. -/
def dn (n j : Nat) : Nat := n / 256 ^ j
theorem dn_zero (n : Nat) : dn n 0 = n := by simp [dn]
theorem dn_succ (n j : Nat) : dn n (j + 1) = dn n j / 256 := by unfold dn; rw [Nat.pow_succ, Nat.div_div_eq_div_mul]
theorem dn_lt (n j : Nat) (h : n < 18446744073709551616) : dn n j ≤ 18446744073709551615 := by have := Nat.div_le_self n (256 ^ j); unfold dn; omega
theorem dn_byte (n j : Nat) (h : j < 8) : Value.int .u8 ((dn n j : Int) % 256) = byteVal (ub n (7 - j)) := by
  unfold byteVal ub dn
  rw [show 7 - (7 - j) = j by omega, UInt8.toNat_ofNat']
  congr 1
theorem made8 : (madeCells #[Value.int .u8 0] 8).toList = List.replicate 8 (.int .u8 0) := by kernel_rfl

def RefRel (n : Nat) (w : World) (v i : Value) (wr : World) : Prop :=
  ∃ j : Nat, j ≤ 8 ∧ i = .int .i64 (7 - (j : Int)) ∧ v = .int .u64 (dn n j : Int) ∧ wr.ownsRow w.heap.size 5 1 (.slice (some ⟨w.heap.size, 0, none⟩) 8 8) 8 (ys n j) ∧ Below w.heap.size w wr

theorem refunslice_no (n c : Int) (w : World) (h : c < 1 ∨ 9 < c) :
    Calls Try.prog 24 #[.int .u64 n, .int .i64 c] w fun e w' => e = .returned (.string ⟨#[]⟩) ∧ w = w' := by
  by_cases h1 : c < 1
  · have d1 : decide (c < 1) = true := by simpa using h1
    go_enter Try.func24, Try.ntmps24
    go_wp2
    go_ret
    exact ⟨rfl, rfl⟩
  · have d1 : decide (c < 1) = false := by simpa using h1
    have d2 : decide (9 < c) = true := by simp; omega
    go_enter Try.func24, Try.ntmps24
    go_wp2
    go_ret
    exact ⟨rfl, rfl⟩

set_option maxHeartbeats 800000 in
theorem refunslice_small (n c : Nat) (w : World) (hc1 : 1 ≤ c) (hc2 : c ≤ 8) (hn : n < 18446744073709551616) :
    Calls Try.prog 24 #[.int .u64 (n : Int), .int .i64 (c : Int)] w fun e w' => e = .returned (.string ⟨(ubs n c).toArray⟩) ∧ Below w.heap.size w w' := by
  obtain ⟨i0, hi, hz0, hz1, hz2⟩ := info_parts info5
  have d1 : decide ((c : Int) < 1) = false := by simp; omega
  have d2 : decide ((9 : Int) < (c : Int)) = false := by simp; omega
  have d3 : ((c : Int) == 9) = false := by simp; omega
  go_enter Try.func24, Try.ntmps24
  go_wp2_with (at_make; refine wpList_make_full _ rfl _ _ 42 rfl w.heap.size 5 i0 (.int .u8 0) 1 Try.underlying42 hi hz0 hz1 _ _ _ _ 8 rfl rfl rfl rfl ?b2 ?b3 (Nat.le_refl _) ?_)
  case b2 => rw [hz2]; omega
  case b3 => unfold maxLen; omega
  intro w0 hown0 hgrow0
  go_wp2
  go_loopw [0, 6] (fun v i wr => RefRel n w v i wr) (fun _ i _ => (intOf i + 1).toNat)
  case atStart => exact ⟨0, Nat.zero_le _, rfl, by rw [dn_zero], by rw [ys_zero, ← made8]; exact hown0, (Below.refl _ _).grown hgrow0 (Nat.le_refl _) (fun k h => by cases h)⟩
  case round =>
    obtain ⟨j, hj, rfl, rfl, hown, hnx⟩ := hrel
    by_cases hlt : j < 8
    · have d4 : decide ((0 : Int) ≤ 7 - (j : Int)) = true := by simp; omega
      have hf := hown.frozenAt (7 - j)
      have hcell := hown.cellAt (7 - j) (by omega)
      rw [ys, List.getElem?_map, List.getElem?_range (by omega)] at hcell
      rw [Option.map_some, if_neg (by omega)] at hcell
      have hdn := dn_lt n j hn
      go_wp2
      obtain ⟨ho, hg⟩ := hown.stored (7 - j) (Value.int .u8 ((dn n j : Int) % 256))
      refine ⟨⟨j + 1, by omega, by go_num, by rw [dn_succ]; go_num, ?_, hnx.grown hg hnx.size (fun k hk => by cases hk; exact Nat.le_refl _)⟩, by simp [intOf]; omega⟩
      rw [dn_byte n j hlt, ys_set n j hlt] at ho
      rw [dn_byte n j hlt]
      exact ho
    · obtain rfl : j = 8 := by omega
      have hcv : (convert 42 9 (.slice (some ⟨w.heap.size, 0, none⟩) c 8)).run Try.prog wr = .ok (.string ⟨(ubs n c).toArray⟩) wr := by
        have h := run_convert_bytes_back (P := Try.prog) wr 42 9 5 ⟨w.heap.size, 0, none⟩ 8 (ubs n c) Try.underlying42 Try.underlying5 Try.underlying9 (fun q hq => by
          have hq' : q < c := by rw [ubs_len] at hq; exact hq
          have e := hown.cellAt q (by omega)
          have ea : (⟨w.heap.size, 0, none⟩ : Addr).add q = ⟨w.heap.size, q, none⟩ := by simp [Addr.add]; omega
          rw [ea, e, ys, List.getElem?_map, List.getElem?_range (by omega)]
          simp [ubs, byteVal])
        rw [ubs_len] at h
        exact h
      go_wp2
      go_ret
      exact ⟨rfl, hnx⟩

set_option maxHeartbeats 800000 in
theorem refunslice_nine (n : Nat) (w : World) (hn : n < 18446744073709551616) :
    Calls Try.prog 24 #[.int .u64 (n : Int), .int .i64 9] w fun e w' => e = .returned (.string ⟨(ubs n 8).toArray⟩) ∧ Below w.heap.size w w' := by
  obtain ⟨i0, hi, hz0, hz1, hz2⟩ := info_parts info5
  go_enter Try.func24, Try.ntmps24
  go_wp2_with (at_make; refine wpList_make_full _ rfl _ _ 42 rfl w.heap.size 5 i0 (.int .u8 0) 1 Try.underlying42 hi hz0 hz1 _ _ _ _ 8 rfl rfl rfl rfl ?b2 ?b3 (Nat.le_refl _) ?_)
  case b2 => rw [hz2]; omega
  case b3 => unfold maxLen; omega
  intro w0 hown0 hgrow0
  go_wp2
  go_loopw [0, 6] (fun v i wr => RefRel n w v i wr) (fun _ i _ => (intOf i + 1).toNat)
  case atStart => exact ⟨0, Nat.zero_le _, rfl, by rw [dn_zero], by rw [ys_zero, ← made8]; exact hown0, (Below.refl _ _).grown hgrow0 (Nat.le_refl _) (fun k h => by cases h)⟩
  case round =>
    obtain ⟨j, hj, rfl, rfl, hown, hnx⟩ := hrel
    by_cases hlt : j < 8
    · have d4 : decide ((0 : Int) ≤ 7 - (j : Int)) = true := by simp; omega
      have hf := hown.frozenAt (7 - j)
      have hcell := hown.cellAt (7 - j) (by omega)
      rw [ys, List.getElem?_map, List.getElem?_range (by omega)] at hcell
      rw [Option.map_some, if_neg (by omega)] at hcell
      have hdn := dn_lt n j hn
      go_wp2
      obtain ⟨ho, hg⟩ := hown.stored (7 - j) (Value.int .u8 ((dn n j : Int) % 256))
      refine ⟨⟨j + 1, by omega, by go_num, by rw [dn_succ]; go_num, ?_, hnx.grown hg hnx.size (fun k hk => by cases hk; exact Nat.le_refl _)⟩, by simp [intOf]; omega⟩
      rw [dn_byte n j hlt, ys_set n j hlt] at ho
      rw [dn_byte n j hlt]
      exact ho
    · obtain rfl : j = 8 := by omega
      have hcv : (convert 42 9 (.slice (some ⟨w.heap.size, 0, none⟩) 8 8)).run Try.prog wr = .ok (.string ⟨(ubs n 8).toArray⟩) wr := by
        have h := run_convert_bytes_back (P := Try.prog) wr 42 9 5 ⟨w.heap.size, 0, none⟩ 8 (ubs n 8) Try.underlying42 Try.underlying5 Try.underlying9 (fun q hq => by
          have hq' : q < 8 := by rw [ubs_len] at hq; exact hq
          have e := hown.cellAt q (by omega)
          have ea : (⟨w.heap.size, 0, none⟩ : Addr).add q = ⟨w.heap.size, q, none⟩ := by simp [Addr.add]; omega
          rw [ea, e, ys, List.getElem?_map, List.getElem?_range (by omega)]
          simp [ubs, byteVal])
        rw [ubs_len] at h
        exact h
      go_wp2
      go_ret
      exact ⟨rfl, hnx⟩

end Go.Proofs.Ytnlmeeijellfaaa
