/-
  What keys.Unslice comes to: the first bytes of a number, highest first; no text where the class is not from 1 to 9.
-/
import Derived.Test.YtnlmeeijellfaaaWalksB
import Derived.Laws.IdiomStrings
import Derived.Maps.AppendAt
namespace Go.Proofs.Ytnlmeeijellfaaa
open Go.RowKit
open Math
set_option linter.unusedVariables false

theorem info5 : (Try.prog.info? 5).map (fun i => (i.zero, i.size, i.bytes)) = some (some (.int .u8 0), 1, 1) := by kernel_rfl

/-- Byte k (0 is the highest) of a number of eight bytes. -/
def ub (n : Nat) (k : Nat) : UInt8 := UInt8.ofNat (n / 256 ^ (7 - k))
/-- The first k bytes of a number of eight bytes, highest first. -/
def ubs (n k : Nat) : List UInt8 := (List.range k).map (ub n)
def byteVal (b : UInt8) : Value := .int .u8 (b.toNat : Int)

theorem ubs_len (n k : Nat) : (ubs n k).length = k := by simp [ubs]
theorem ubs_succ (n k : Nat) : ubs n (k + 1) = ubs n k ++ [ub n k] := by simp [ubs, List.range_succ]
theorem ub_val (n k : Nat) : Value.int .u8 ((n : Int) / 2 ^ (8 * (7 - k)) % 256) = byteVal (ub n k) := by
  unfold byteVal ub
  congr 1
  have e : 256 ^ (7 - k) = 2 ^ (8 * (7 - k)) := by rw [Nat.pow_mul]
  rw [e, UInt8.toNat_ofNat']
  generalize 8 * (7 - k) = m
  have h : (2 : Int) ^ m = ((2 ^ m : Nat) : Int) := by simp
  rw [h, ← Int.natCast_ediv]
  omega

def UnRel (n : Nat) (w : World) (m : Nat) (v i : Value) (wr : World) : Prop :=
  ∃ k : Nat, k ≤ m ∧ i = .int .i64 (k : Int) ∧ v = .slice (some ⟨w.heap.size, 0, none⟩) k 8 ∧ wr.ownsRow w.heap.size 5 1 (.slice (some ⟨w.heap.size, 0, none⟩) k 8) k ((ubs n k).map byteVal) ∧ Below w.heap.size w wr

theorem unslice_no (n c : Int) (w : World) (h : c < 1 ∨ 9 < c) :
    Calls Try.prog 18 #[.int .u64 n, .int .i64 c] w fun e w' => e = .returned (.string ⟨#[]⟩) ∧ w = w' := by
  by_cases h1 : c < 1
  · have d1 : decide (c < 1) = true := by simpa using h1
    go_enter Try.func18, Try.ntmps18
    go_wp2
    go_ret
    exact ⟨rfl, rfl⟩
  · have d1 : decide (c < 1) = false := by simpa using h1
    have d2 : decide (9 < c) = true := by simp; omega
    go_enter Try.func18, Try.ntmps18
    go_wp2
    go_ret
    exact ⟨rfl, rfl⟩

set_option maxHeartbeats 800000 in
theorem unslice_yes (n c : Nat) (w : World) (hc1 : 1 ≤ c) (hc2 : c ≤ 9) (hn : n < 18446744073709551616) :
    Calls Try.prog 18 #[.int .u64 (n : Int), .int .i64 (c : Int)] w fun e w' => e = .returned (.string ⟨(ubs n (min c 8)).toArray⟩) ∧ Below w.heap.size w w' := by
  obtain ⟨i0, hi, hz0, hz1, hz2⟩ := info_parts info5
  have d1 : decide ((c : Int) < 1) = false := by simp; omega
  have d2 : decide ((9 : Int) < (c : Int)) = false := by simp; omega
  go_enter Try.func18, Try.ntmps18
  go_wp2_with (at_make; refine wpList_make_own _ rfl _ _ 42 rfl w.heap.size 5 i0 (.int .u8 0) 1 Try.underlying42 hi hz0 hz1 _ _ _ 8 rfl rfl (by omega) ?b2 ?b3 (Nat.le_refl _) ?_)
  case b2 => rw [hz2]; omega
  case b3 => unfold maxLen; omega
  intro w0 hown0 hgrow0
  go_wp2
  go_loopw [5, 16] (fun v i wr => UnRel n w (min c 8) v i wr) (fun _ i _ => 8 - (intOf i).toNat)
  case atStart => exact ⟨0, Nat.zero_le _, rfl, rfl, hown0, (Below.refl _ _).grown hgrow0 (Nat.le_refl _) (fun k h => by cases h)⟩
  case round =>
    obtain ⟨k, hk, rfl, rfl, hown, hnx⟩ := hrel
    by_cases hlt : k < min c 8
    · have d3 : decide ((k : Int) < min (c : Int) 8) = true := by simp; omega
      have hk8 : k < 8 := by omega
      go_wp2_with (at_builtin; refine wpList_append_fits _ rfl (.tmp 19) (.tmp 26) 42 rfl w.heap.size 5 i0 1 Try.underlying42 hi hz1 w.heap.size k 8 _ rfl (hown.alloc _) ⟨wr.heap.size, 0, none⟩ 1 1 [.int .u8 ((n : Int) / 2 ^ (8 * (7 - k)) % 256)] rfl rfl (cell_one_new _ _ _) (ints_oneCell .u8 [_]) (by omega) ?_; intro w1 hown1 hgrow1)
      refine ⟨⟨k + 1, by omega, by go_num, rfl, ?_, ?_⟩, by simp [intOf]; omega⟩
      · rw [ub_val] at hown1
        rw [ubs_succ, List.map_append]
        exact hown1
      · exact (hnx.alloc hnx.size _).grown hgrow1 (by simp; have := hnx.size; omega) (fun k hk => by cases hk; exact Nat.le_refl _)
    · have d3 : decide ((k : Int) < min (c : Int) 8) = false := by simp; omega
      obtain rfl : k = min c 8 := by omega
      have hcv : (convert 42 9 (.slice (some ⟨w.heap.size, 0, none⟩) (min c 8) 8)).run Try.prog wr = .ok (.string ⟨(ubs n (min c 8)).toArray⟩) wr := by
        have h := run_convert_bytes_back (P := Try.prog) wr 42 9 5 ⟨w.heap.size, 0, none⟩ 8 (ubs n (min c 8)) Try.underlying42 Try.underlying5 Try.underlying9 (fun j hj => by
          have hj' : j < min c 8 := by rw [ubs_len] at hj; exact hj
          have e := hown.cellAt j (by omega)
          have ea : (⟨w.heap.size, 0, none⟩ : Addr).add j = ⟨w.heap.size, j, none⟩ := by simp [Addr.add]; omega
          rw [ea, e, List.getElem?_map, List.getElem?_eq_getElem hj]
          rfl)
        rw [ubs_len] at h
        exact h
      go_wp2
      go_ret
      exact ⟨rfl, hnx⟩
end Go.Proofs.Ytnlmeeijellfaaa
