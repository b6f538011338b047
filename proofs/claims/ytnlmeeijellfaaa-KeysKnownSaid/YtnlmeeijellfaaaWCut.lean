/-
  The walk of the law KeysCut: it returns true and turns nothing that was there; for texts of any size that a string may have.
-/
import Derived.Test.YtnlmeeijellfaaaMathC
import Derived.Test.YtnlmeeijellfaaaWSlicesLaw
import Derived.Test.YtnlmeeijellfaaaWOrder
namespace Go.Proofs.Ytnlmeeijellfaaa
open Go.RowKit
open Math
set_option linter.unusedVariables false

theorem slice_nat (s : ByteArray) (i n c : Nat) (w : World) (hs : s.size ≤ 140737488355328) (hn : sv s i 8 = n) (hc : min (s.size - 8 * i) 9 = c) :
    Calls Try.prog 15 #[.string s, .int .i64 (i : Int)] w fun e w' => e = .returned (.tuple #[.int .u64 (n : Int), .int .i64 (c : Int)]) ∧ w = w' := by
  by_cases hi : 8 * i < s.size
  · subst hn hc; exact slice_yes s i w hs hi
  · have e0 : sv s i 8 = 0 := by
      unfold sv
      have hl : s.data.toList.length = s.size := Array.length_toList
      rw [List.drop_eq_nil_of_le (by omega), vk_nil]
    have e1 : min (s.size - 8 * i) 9 = 0 := by omega
    rw [← hn, ← hc, e0, e1]
    exact slice_no s (i : Int) w hs (by omega)

theorem unslice_nat (n c : Nat) (x : ByteArray) (w : World) (hc2 : c ≤ 9) (hn : n < 18446744073709551616) (hx : (⟨(ubs n (min c 8)).toArray⟩ : ByteArray) = x) :
    Calls Try.prog 18 #[.int .u64 (n : Int), .int .i64 (c : Int)] w fun e w' => e = .returned (.string x) ∧ Below w.heap.size w w' := by
  by_cases h : 1 ≤ c
  · subst hx; exact unslice_yes n c w h hc2 hn
  · obtain rfl : c = 0 := by omega
    rw [← hx]
    exact (unslice_no (n : Int) 0 w (by omega)).mono fun e w' ⟨he, hw⟩ => ⟨by rw [he]; rfl, hw ▸ Below.refl _ _⟩

def CutRel (a : ByteArray) (w : World) (t i : Value) (wr : World) : Prop :=
  ∃ (k : Nat) (cur : ByteArray), 8 * k ≤ a.size ∧ i = .int .i64 (k : Int) ∧ t = .string cur ∧ cur.data.toList = a.data.toList.take (8 * k) ∧ Below w.heap.size w wr

theorem sv_lt8 (s : ByteArray) (i : Nat) : sv s i 8 < 18446744073709551616 := by
  have h := vk_lt (s.data.toList.drop (8 * i)) 8
  have e : (256 : Nat) ^ 8 = 18446744073709551616 := by decide
  unfold sv
  omega

/-- What a round puts behind what it had: the slice's bytes. -/
theorem piece (a : ByteArray) (k : Nat) (h : 8 * k ≤ a.size) : ubs (sv a k 8) (min (min (a.size - 8 * k) 9) 8) = (a.data.toList.drop (8 * k)).take 8 := by
  have hl : a.data.toList.length = a.size := Array.length_toList
  unfold sv
  rw [ubs_vk _ _ (by omega) (by rw [List.length_drop]; omega)]
  by_cases g : 8 ≤ a.size - 8 * k
  · rw [show min (min (a.size - 8 * k) 9) 8 = 8 by omega]
  · rw [List.take_of_length_le (by rw [List.length_drop]; omega), List.take_of_length_le (by rw [List.length_drop]; omega)]

theorem joined (a cur x : ByteArray) (k : Nat) (hcur : cur.data.toList = a.data.toList.take (8 * k)) (hx : x.data.toList = (a.data.toList.drop (8 * k)).take 8) : (cur ++ x).data.toList = a.data.toList.take (8 * (k + 1)) := by
  have e : (cur ++ x).data.toList = cur.data.toList ++ x.data.toList := by simp [ByteArray.data_append]
  rw [e, hcur, hx, show 8 * (k + 1) = 8 * k + 8 by omega, List.take_add]

theorem compare_quiet (a b : ByteArray) (c : Int) (h : cmp a.data.toList b.data.toList = c) (w : World) (n : Nat) :
    Calls Try.prog 12 #[.string a, .string b] (w.drewN n) fun e w' => e = .returned (.int .i64 c) ∧ ∃ m, w' = w.drewN m :=
  (compare_is a b c h (w.drewN n)).mono fun e w' ⟨he, hw⟩ => ⟨he, n, hw.symm⟩

set_option maxRecDepth 100000 in
set_option maxHeartbeats 2000000 in
theorem cut_lt (a0 a1 : ByteArray) (h0 : a0.size ≤ 1000) (h1 : a1.size ≤ 1000) (nA nB pA pB : Nat) (hrel1 : nA < nB) (w : World)
    (hnA : Hid (sv a0 0 8 = nA)) (hnB : Hid (sv a1 0 8 = nB)) (hpA : Hid (min (a0.size - 8 * 0) 9 = pA)) (hpB : Hid (min (a1.size - 8 * 0) 9 = pB)) (hcmp : Hid (cmp a0.data.toList a1.data.toList = -1)) :
    Calls Try.prog 7 #[.string a0, .string a1] w fun e w' => e = .returned (.bool true) ∧ Below w.heap.size w w' := by
  have d0 : decide ((1000 : Int) < (a0.size : Int)) = false := by simp; omega
  have d1 : decide ((1000 : Int) < (a1.size : Int)) = false := by simp; omega
  have f1 : ((nA : Int) != (nB : Int)) = true := by rw [bne_iff_ne]; omega
  have f2 : decide ((nA : Int) < (nB : Int)) = true := by simp; omega
  have f2' : decide (nA < nB) = true := by simp; omega
  go_enter Try.func7, Try.ntmps7
  go_wp2_with fail
  refine (awake_any _).mono ?_
  rintro e w' ⟨rfl, rfl⟩
  go_wp2_with fail
  go_loopw [5, 6] (fun t i wr => CutRel a0 w t i wr) (fun _ i _ => a0.size + 1 - (intOf i).toNat)
  case atStart => exact ⟨0, ⟨#[]⟩, by omega, rfl, rfl, by simp, Below.refl _ _⟩
  case round =>
    obtain ⟨k, cur, hk, rfl, rfl, hcur, hnx⟩ := hrel
    have HC := Lib.hid hcur
    have hcs : cur.size ≤ 1000 := by
      have e : cur.data.toList.length = cur.size := Array.length_toList
      have l : a0.data.toList.length = a0.size := Array.length_toList
      rw [hcur, List.length_take] at e
      omega
    clear hcur
    have HN := Lib.hid (sv_lt8 a0 k)
    obtain ⟨x, hx⟩ : ∃ x : ByteArray, (⟨(ubs (sv a0 k 8) (min (min (a0.size - 8 * k) 9) 8)).toArray⟩ : ByteArray) = x := ⟨_, rfl⟩
    have hxl : x.data.toList = (a0.data.toList.drop (8 * k)).take 8 := by rw [← hx, ← piece a0 k hk]
    have hxs : x.size ≤ 8 := by
      have e : x.data.toList.length = x.size := Array.length_toList
      rw [hxl, List.length_take] at e
      omega
    have hj := joined a0 cur x k HC.out hxl
    have HX := Lib.hid hx
    have HJ := Lib.hid hj
    clear hx hxl hj
    have d2 : decide ((k : Int) ≤ (a0.size : Int)) = true := by simp; omega
    have d2' : decide (k ≤ a0.size) = true := by simp; omega
    by_cases h9 : 9 ≤ a0.size - 8 * k
    · have e9 : min (a0.size - 8 * k) 9 = 9 := by omega
      rw [e9] at HX
      have HE := Lib.hid e9
      clear e9
      go_wp2_with fail
      refine (slice_nat _ _ _ _ _ (by omega) rfl HE.out).mono ?_
      rintro e w' ⟨rfl, rfl⟩
      go_wp2_with fail
      refine (unslice_nat _ _ _ _ (by omega) HN.out HX.out).mono ?_
      rintro e w1 ⟨rfl, hb1⟩
      go_wp2_with fail
      refine ⟨⟨k + 1, cur ++ x, by omega, by go_num, rfl, HJ.out, hnx.trans (hb1.mono hnx.size)⟩, by simp [intOf]; omega⟩
    · obtain ⟨c, hc⟩ : ∃ c, min (a0.size - 8 * k) 9 = c := ⟨_, rfl⟩
      have c1 : c ≤ 8 := by omega
      have c2 : 8 * k + c ≤ a0.size := by omega
      have c3 : a0.size ≤ 8 * k + c := by omega
      have g1 : ((c : Int) != 9) = true := by rw [bne_iff_ne]; omega
      have g2 : decide ((k : Int) * 8 + (c : Int) < (a0.size : Int)) = false := by simp; omega
      have g3 : decide ((c : Int) < 9) = true := by simp; omega
      rw [hc] at HX
      have HE := Lib.hid hc
      clear hc
      have hall : (cur ++ x).data.toList = a0.data.toList := by
        have l : a0.data.toList.length = a0.size := Array.length_toList
        rw [HJ.out, List.take_of_length_le (by omega)]
      have g4 : ((cur ++ x).toList == a0.toList) = true := by rw [toList_data, toList_data, hall, beq_self_eq_true]
      clear hall
      go_wp2_with fail
      refine (slice_nat _ _ _ _ _ (by omega) rfl HE.out).mono ?_
      rintro e w' ⟨rfl, rfl⟩
      go_wp2_with fail
      refine (unslice_nat _ _ _ _ (by omega) HN.out HX.out).mono ?_
      rintro e w1 ⟨rfl, hb1⟩
      go_wp2_with fail
      refine (slice_nat _ 0 _ _ _ (by omega) hnA.out hpA.out).mono ?_
      rintro e w' ⟨rfl, rfl⟩
      go_wp2_with fail
      refine (slice_nat _ 0 _ _ _ (by omega) hnB.out hpB.out).mono ?_
      rintro e w' ⟨rfl, rfl⟩
      go_wp2_with fail
      refine (compare_is _ _ _ hcmp.out _).mono ?_
      rintro e w' ⟨rfl, rfl⟩
      go_wp2_with fail
      go_ret
      exact ⟨rfl, hnx.trans (hb1.mono hnx.size)⟩

set_option maxRecDepth 100000 in
set_option maxHeartbeats 2000000 in
theorem cut_gt (a0 a1 : ByteArray) (h0 : a0.size ≤ 1000) (h1 : a1.size ≤ 1000) (nA nB pA pB : Nat) (hrel1 : nB < nA) (w : World)
    (hnA : Hid (sv a0 0 8 = nA)) (hnB : Hid (sv a1 0 8 = nB)) (hpA : Hid (min (a0.size - 8 * 0) 9 = pA)) (hpB : Hid (min (a1.size - 8 * 0) 9 = pB)) (hcmp : Hid (cmp a0.data.toList a1.data.toList = 1)) :
    Calls Try.prog 7 #[.string a0, .string a1] w fun e w' => e = .returned (.bool true) ∧ Below w.heap.size w w' := by
  have d0 : decide ((1000 : Int) < (a0.size : Int)) = false := by simp; omega
  have d1 : decide ((1000 : Int) < (a1.size : Int)) = false := by simp; omega
  have f1 : ((nA : Int) != (nB : Int)) = true := by rw [bne_iff_ne]; omega
  have f2 : decide ((nA : Int) < (nB : Int)) = false := by simp; omega
  have f2' : decide (nA < nB) = false := by simp; omega
  go_enter Try.func7, Try.ntmps7
  go_wp2_with fail
  refine (awake_any _).mono ?_
  rintro e w' ⟨rfl, rfl⟩
  go_wp2_with fail
  go_loopw [5, 6] (fun t i wr => CutRel a0 w t i wr) (fun _ i _ => a0.size + 1 - (intOf i).toNat)
  case atStart => exact ⟨0, ⟨#[]⟩, by omega, rfl, rfl, by simp, Below.refl _ _⟩
  case round =>
    obtain ⟨k, cur, hk, rfl, rfl, hcur, hnx⟩ := hrel
    have HC := Lib.hid hcur
    have hcs : cur.size ≤ 1000 := by
      have e : cur.data.toList.length = cur.size := Array.length_toList
      have l : a0.data.toList.length = a0.size := Array.length_toList
      rw [hcur, List.length_take] at e
      omega
    clear hcur
    have HN := Lib.hid (sv_lt8 a0 k)
    obtain ⟨x, hx⟩ : ∃ x : ByteArray, (⟨(ubs (sv a0 k 8) (min (min (a0.size - 8 * k) 9) 8)).toArray⟩ : ByteArray) = x := ⟨_, rfl⟩
    have hxl : x.data.toList = (a0.data.toList.drop (8 * k)).take 8 := by rw [← hx, ← piece a0 k hk]
    have hxs : x.size ≤ 8 := by
      have e : x.data.toList.length = x.size := Array.length_toList
      rw [hxl, List.length_take] at e
      omega
    have hj := joined a0 cur x k HC.out hxl
    have HX := Lib.hid hx
    have HJ := Lib.hid hj
    clear hx hxl hj
    have d2 : decide ((k : Int) ≤ (a0.size : Int)) = true := by simp; omega
    have d2' : decide (k ≤ a0.size) = true := by simp; omega
    by_cases h9 : 9 ≤ a0.size - 8 * k
    · have e9 : min (a0.size - 8 * k) 9 = 9 := by omega
      rw [e9] at HX
      have HE := Lib.hid e9
      clear e9
      go_wp2_with fail
      refine (slice_nat _ _ _ _ _ (by omega) rfl HE.out).mono ?_
      rintro e w' ⟨rfl, rfl⟩
      go_wp2_with fail
      refine (unslice_nat _ _ _ _ (by omega) HN.out HX.out).mono ?_
      rintro e w1 ⟨rfl, hb1⟩
      go_wp2_with fail
      refine ⟨⟨k + 1, cur ++ x, by omega, by go_num, rfl, HJ.out, hnx.trans (hb1.mono hnx.size)⟩, by simp [intOf]; omega⟩
    · obtain ⟨c, hc⟩ : ∃ c, min (a0.size - 8 * k) 9 = c := ⟨_, rfl⟩
      have c1 : c ≤ 8 := by omega
      have c2 : 8 * k + c ≤ a0.size := by omega
      have c3 : a0.size ≤ 8 * k + c := by omega
      have g1 : ((c : Int) != 9) = true := by rw [bne_iff_ne]; omega
      have g2 : decide ((k : Int) * 8 + (c : Int) < (a0.size : Int)) = false := by simp; omega
      have g3 : decide ((c : Int) < 9) = true := by simp; omega
      rw [hc] at HX
      have HE := Lib.hid hc
      clear hc
      have hall : (cur ++ x).data.toList = a0.data.toList := by
        have l : a0.data.toList.length = a0.size := Array.length_toList
        rw [HJ.out, List.take_of_length_le (by omega)]
      have g4 : ((cur ++ x).toList == a0.toList) = true := by rw [toList_data, toList_data, hall, beq_self_eq_true]
      clear hall
      go_wp2_with fail
      refine (slice_nat _ _ _ _ _ (by omega) rfl HE.out).mono ?_
      rintro e w' ⟨rfl, rfl⟩
      go_wp2_with fail
      refine (unslice_nat _ _ _ _ (by omega) HN.out HX.out).mono ?_
      rintro e w1 ⟨rfl, hb1⟩
      go_wp2_with fail
      refine (slice_nat _ 0 _ _ _ (by omega) hnA.out hpA.out).mono ?_
      rintro e w' ⟨rfl, rfl⟩
      go_wp2_with fail
      refine (slice_nat _ 0 _ _ _ (by omega) hnB.out hpB.out).mono ?_
      rintro e w' ⟨rfl, rfl⟩
      go_wp2_with fail
      refine (compare_is _ _ _ hcmp.out _).mono ?_
      rintro e w' ⟨rfl, rfl⟩
      go_wp2_with fail
      go_ret
      exact ⟨rfl, hnx.trans (hb1.mono hnx.size)⟩

set_option maxRecDepth 100000 in
set_option maxHeartbeats 2000000 in
theorem cut_slt (a0 a1 : ByteArray) (h0 : a0.size ≤ 1000) (h1 : a1.size ≤ 1000) (nA pA pB : Nat) (hrel1 : pA < pB) (w : World)
    (hnA : Hid (sv a0 0 8 = nA)) (hnB : Hid (sv a1 0 8 = nA)) (hpA : Hid (min (a0.size - 8 * 0) 9 = pA)) (hpB : Hid (min (a1.size - 8 * 0) 9 = pB)) (hcmp : Hid (cmp a0.data.toList a1.data.toList = -1)) :
    Calls Try.prog 7 #[.string a0, .string a1] w fun e w' => e = .returned (.bool true) ∧ Below w.heap.size w w' := by
  have d0 : decide ((1000 : Int) < (a0.size : Int)) = false := by simp; omega
  have d1 : decide ((1000 : Int) < (a1.size : Int)) = false := by simp; omega
  have f1 : ((pA : Int) != (pB : Int)) = true := by rw [bne_iff_ne]; omega
  have f2 : decide ((pA : Int) < (pB : Int)) = true := by simp; omega
  have f2' : decide (pA < pB) = true := by simp; omega
  go_enter Try.func7, Try.ntmps7
  go_wp2_with fail
  refine (awake_any _).mono ?_
  rintro e w' ⟨rfl, rfl⟩
  go_wp2_with fail
  go_loopw [5, 6] (fun t i wr => CutRel a0 w t i wr) (fun _ i _ => a0.size + 1 - (intOf i).toNat)
  case atStart => exact ⟨0, ⟨#[]⟩, by omega, rfl, rfl, by simp, Below.refl _ _⟩
  case round =>
    obtain ⟨k, cur, hk, rfl, rfl, hcur, hnx⟩ := hrel
    have HC := Lib.hid hcur
    have hcs : cur.size ≤ 1000 := by
      have e : cur.data.toList.length = cur.size := Array.length_toList
      have l : a0.data.toList.length = a0.size := Array.length_toList
      rw [hcur, List.length_take] at e
      omega
    clear hcur
    have HN := Lib.hid (sv_lt8 a0 k)
    obtain ⟨x, hx⟩ : ∃ x : ByteArray, (⟨(ubs (sv a0 k 8) (min (min (a0.size - 8 * k) 9) 8)).toArray⟩ : ByteArray) = x := ⟨_, rfl⟩
    have hxl : x.data.toList = (a0.data.toList.drop (8 * k)).take 8 := by rw [← hx, ← piece a0 k hk]
    have hxs : x.size ≤ 8 := by
      have e : x.data.toList.length = x.size := Array.length_toList
      rw [hxl, List.length_take] at e
      omega
    have hj := joined a0 cur x k HC.out hxl
    have HX := Lib.hid hx
    have HJ := Lib.hid hj
    clear hx hxl hj
    have d2 : decide ((k : Int) ≤ (a0.size : Int)) = true := by simp; omega
    have d2' : decide (k ≤ a0.size) = true := by simp; omega
    by_cases h9 : 9 ≤ a0.size - 8 * k
    · have e9 : min (a0.size - 8 * k) 9 = 9 := by omega
      rw [e9] at HX
      have HE := Lib.hid e9
      clear e9
      go_wp2_with fail
      refine (slice_nat _ _ _ _ _ (by omega) rfl HE.out).mono ?_
      rintro e w' ⟨rfl, rfl⟩
      go_wp2_with fail
      refine (unslice_nat _ _ _ _ (by omega) HN.out HX.out).mono ?_
      rintro e w1 ⟨rfl, hb1⟩
      go_wp2_with fail
      refine ⟨⟨k + 1, cur ++ x, by omega, by go_num, rfl, HJ.out, hnx.trans (hb1.mono hnx.size)⟩, by simp [intOf]; omega⟩
    · obtain ⟨c, hc⟩ : ∃ c, min (a0.size - 8 * k) 9 = c := ⟨_, rfl⟩
      have c1 : c ≤ 8 := by omega
      have c2 : 8 * k + c ≤ a0.size := by omega
      have c3 : a0.size ≤ 8 * k + c := by omega
      have g1 : ((c : Int) != 9) = true := by rw [bne_iff_ne]; omega
      have g2 : decide ((k : Int) * 8 + (c : Int) < (a0.size : Int)) = false := by simp; omega
      have g3 : decide ((c : Int) < 9) = true := by simp; omega
      rw [hc] at HX
      have HE := Lib.hid hc
      clear hc
      have hall : (cur ++ x).data.toList = a0.data.toList := by
        have l : a0.data.toList.length = a0.size := Array.length_toList
        rw [HJ.out, List.take_of_length_le (by omega)]
      have g4 : ((cur ++ x).toList == a0.toList) = true := by rw [toList_data, toList_data, hall, beq_self_eq_true]
      clear hall
      go_wp2_with fail
      refine (slice_nat _ _ _ _ _ (by omega) rfl HE.out).mono ?_
      rintro e w' ⟨rfl, rfl⟩
      go_wp2_with fail
      refine (unslice_nat _ _ _ _ (by omega) HN.out HX.out).mono ?_
      rintro e w1 ⟨rfl, hb1⟩
      go_wp2_with fail
      refine (slice_nat _ 0 _ _ _ (by omega) hnA.out hpA.out).mono ?_
      rintro e w' ⟨rfl, rfl⟩
      go_wp2_with fail
      refine (slice_nat _ 0 _ _ _ (by omega) hnB.out hpB.out).mono ?_
      rintro e w' ⟨rfl, rfl⟩
      go_wp2_with fail
      refine (compare_is _ _ _ hcmp.out _).mono ?_
      rintro e w' ⟨rfl, rfl⟩
      go_wp2_with fail
      go_ret
      exact ⟨rfl, hnx.trans (hb1.mono hnx.size)⟩

set_option maxRecDepth 100000 in
set_option maxHeartbeats 2000000 in
theorem cut_sgt (a0 a1 : ByteArray) (h0 : a0.size ≤ 1000) (h1 : a1.size ≤ 1000) (nA pA pB : Nat) (hrel1 : pB < pA) (w : World)
    (hnA : Hid (sv a0 0 8 = nA)) (hnB : Hid (sv a1 0 8 = nA)) (hpA : Hid (min (a0.size - 8 * 0) 9 = pA)) (hpB : Hid (min (a1.size - 8 * 0) 9 = pB)) (hcmp : Hid (cmp a0.data.toList a1.data.toList = 1)) :
    Calls Try.prog 7 #[.string a0, .string a1] w fun e w' => e = .returned (.bool true) ∧ Below w.heap.size w w' := by
  have d0 : decide ((1000 : Int) < (a0.size : Int)) = false := by simp; omega
  have d1 : decide ((1000 : Int) < (a1.size : Int)) = false := by simp; omega
  have f1 : ((pA : Int) != (pB : Int)) = true := by rw [bne_iff_ne]; omega
  have f2 : decide ((pA : Int) < (pB : Int)) = false := by simp; omega
  have f2' : decide (pA < pB) = false := by simp; omega
  go_enter Try.func7, Try.ntmps7
  go_wp2_with fail
  refine (awake_any _).mono ?_
  rintro e w' ⟨rfl, rfl⟩
  go_wp2_with fail
  go_loopw [5, 6] (fun t i wr => CutRel a0 w t i wr) (fun _ i _ => a0.size + 1 - (intOf i).toNat)
  case atStart => exact ⟨0, ⟨#[]⟩, by omega, rfl, rfl, by simp, Below.refl _ _⟩
  case round =>
    obtain ⟨k, cur, hk, rfl, rfl, hcur, hnx⟩ := hrel
    have HC := Lib.hid hcur
    have hcs : cur.size ≤ 1000 := by
      have e : cur.data.toList.length = cur.size := Array.length_toList
      have l : a0.data.toList.length = a0.size := Array.length_toList
      rw [hcur, List.length_take] at e
      omega
    clear hcur
    have HN := Lib.hid (sv_lt8 a0 k)
    obtain ⟨x, hx⟩ : ∃ x : ByteArray, (⟨(ubs (sv a0 k 8) (min (min (a0.size - 8 * k) 9) 8)).toArray⟩ : ByteArray) = x := ⟨_, rfl⟩
    have hxl : x.data.toList = (a0.data.toList.drop (8 * k)).take 8 := by rw [← hx, ← piece a0 k hk]
    have hxs : x.size ≤ 8 := by
      have e : x.data.toList.length = x.size := Array.length_toList
      rw [hxl, List.length_take] at e
      omega
    have hj := joined a0 cur x k HC.out hxl
    have HX := Lib.hid hx
    have HJ := Lib.hid hj
    clear hx hxl hj
    have d2 : decide ((k : Int) ≤ (a0.size : Int)) = true := by simp; omega
    have d2' : decide (k ≤ a0.size) = true := by simp; omega
    by_cases h9 : 9 ≤ a0.size - 8 * k
    · have e9 : min (a0.size - 8 * k) 9 = 9 := by omega
      rw [e9] at HX
      have HE := Lib.hid e9
      clear e9
      go_wp2_with fail
      refine (slice_nat _ _ _ _ _ (by omega) rfl HE.out).mono ?_
      rintro e w' ⟨rfl, rfl⟩
      go_wp2_with fail
      refine (unslice_nat _ _ _ _ (by omega) HN.out HX.out).mono ?_
      rintro e w1 ⟨rfl, hb1⟩
      go_wp2_with fail
      refine ⟨⟨k + 1, cur ++ x, by omega, by go_num, rfl, HJ.out, hnx.trans (hb1.mono hnx.size)⟩, by simp [intOf]; omega⟩
    · obtain ⟨c, hc⟩ : ∃ c, min (a0.size - 8 * k) 9 = c := ⟨_, rfl⟩
      have c1 : c ≤ 8 := by omega
      have c2 : 8 * k + c ≤ a0.size := by omega
      have c3 : a0.size ≤ 8 * k + c := by omega
      have g1 : ((c : Int) != 9) = true := by rw [bne_iff_ne]; omega
      have g2 : decide ((k : Int) * 8 + (c : Int) < (a0.size : Int)) = false := by simp; omega
      have g3 : decide ((c : Int) < 9) = true := by simp; omega
      rw [hc] at HX
      have HE := Lib.hid hc
      clear hc
      have hall : (cur ++ x).data.toList = a0.data.toList := by
        have l : a0.data.toList.length = a0.size := Array.length_toList
        rw [HJ.out, List.take_of_length_le (by omega)]
      have g4 : ((cur ++ x).toList == a0.toList) = true := by rw [toList_data, toList_data, hall, beq_self_eq_true]
      clear hall
      go_wp2_with fail
      refine (slice_nat _ _ _ _ _ (by omega) rfl HE.out).mono ?_
      rintro e w' ⟨rfl, rfl⟩
      go_wp2_with fail
      refine (unslice_nat _ _ _ _ (by omega) HN.out HX.out).mono ?_
      rintro e w1 ⟨rfl, hb1⟩
      go_wp2_with fail
      refine (slice_nat _ 0 _ _ _ (by omega) hnA.out hpA.out).mono ?_
      rintro e w' ⟨rfl, rfl⟩
      go_wp2_with fail
      refine (slice_nat _ 0 _ _ _ (by omega) hnB.out hpB.out).mono ?_
      rintro e w' ⟨rfl, rfl⟩
      go_wp2_with fail
      refine (compare_is _ _ _ hcmp.out _).mono ?_
      rintro e w' ⟨rfl, rfl⟩
      go_wp2_with fail
      go_ret
      exact ⟨rfl, hnx.trans (hb1.mono hnx.size)⟩

set_option maxRecDepth 100000 in
set_option maxHeartbeats 2000000 in
theorem cut_same (a0 a1 : ByteArray) (h0 : a0.size ≤ 1000) (h1 : a1.size ≤ 1000) (nA pA : Nat) (hrel1 : pA ≤ 8) (w : World)
    (hnA : Hid (sv a0 0 8 = nA)) (hnB : Hid (sv a1 0 8 = nA)) (hpA : Hid (min (a0.size - 8 * 0) 9 = pA)) (hpB : Hid (min (a1.size - 8 * 0) 9 = pA)) (hcmp : Hid (cmp a0.data.toList a1.data.toList = 0)) :
    Calls Try.prog 7 #[.string a0, .string a1] w fun e w' => e = .returned (.bool true) ∧ Below w.heap.size w w' := by
  have d0 : decide ((1000 : Int) < (a0.size : Int)) = false := by simp; omega
  have d1 : decide ((1000 : Int) < (a1.size : Int)) = false := by simp; omega
  have f1 : ((pA : Int) == 9) = false := by rw [beq_eq_false_iff_ne]; omega
  go_enter Try.func7, Try.ntmps7
  go_wp2_with fail
  refine (awake_any _).mono ?_
  rintro e w' ⟨rfl, rfl⟩
  go_wp2_with fail
  go_loopw [5, 6] (fun t i wr => CutRel a0 w t i wr) (fun _ i _ => a0.size + 1 - (intOf i).toNat)
  case atStart => exact ⟨0, ⟨#[]⟩, by omega, rfl, rfl, by simp, Below.refl _ _⟩
  case round =>
    obtain ⟨k, cur, hk, rfl, rfl, hcur, hnx⟩ := hrel
    have HC := Lib.hid hcur
    have hcs : cur.size ≤ 1000 := by
      have e : cur.data.toList.length = cur.size := Array.length_toList
      have l : a0.data.toList.length = a0.size := Array.length_toList
      rw [hcur, List.length_take] at e
      omega
    clear hcur
    have HN := Lib.hid (sv_lt8 a0 k)
    obtain ⟨x, hx⟩ : ∃ x : ByteArray, (⟨(ubs (sv a0 k 8) (min (min (a0.size - 8 * k) 9) 8)).toArray⟩ : ByteArray) = x := ⟨_, rfl⟩
    have hxl : x.data.toList = (a0.data.toList.drop (8 * k)).take 8 := by rw [← hx, ← piece a0 k hk]
    have hxs : x.size ≤ 8 := by
      have e : x.data.toList.length = x.size := Array.length_toList
      rw [hxl, List.length_take] at e
      omega
    have hj := joined a0 cur x k HC.out hxl
    have HX := Lib.hid hx
    have HJ := Lib.hid hj
    clear hx hxl hj
    have d2 : decide ((k : Int) ≤ (a0.size : Int)) = true := by simp; omega
    have d2' : decide (k ≤ a0.size) = true := by simp; omega
    by_cases h9 : 9 ≤ a0.size - 8 * k
    · have e9 : min (a0.size - 8 * k) 9 = 9 := by omega
      rw [e9] at HX
      have HE := Lib.hid e9
      clear e9
      go_wp2_with fail
      refine (slice_nat _ _ _ _ _ (by omega) rfl HE.out).mono ?_
      rintro e w' ⟨rfl, rfl⟩
      go_wp2_with fail
      refine (unslice_nat _ _ _ _ (by omega) HN.out HX.out).mono ?_
      rintro e w1 ⟨rfl, hb1⟩
      go_wp2_with fail
      refine ⟨⟨k + 1, cur ++ x, by omega, by go_num, rfl, HJ.out, hnx.trans (hb1.mono hnx.size)⟩, by simp [intOf]; omega⟩
    · obtain ⟨c, hc⟩ : ∃ c, min (a0.size - 8 * k) 9 = c := ⟨_, rfl⟩
      have c1 : c ≤ 8 := by omega
      have c2 : 8 * k + c ≤ a0.size := by omega
      have c3 : a0.size ≤ 8 * k + c := by omega
      have g1 : ((c : Int) != 9) = true := by rw [bne_iff_ne]; omega
      have g2 : decide ((k : Int) * 8 + (c : Int) < (a0.size : Int)) = false := by simp; omega
      have g3 : decide ((c : Int) < 9) = true := by simp; omega
      rw [hc] at HX
      have HE := Lib.hid hc
      clear hc
      have hall : (cur ++ x).data.toList = a0.data.toList := by
        have l : a0.data.toList.length = a0.size := Array.length_toList
        rw [HJ.out, List.take_of_length_le (by omega)]
      have g4 : ((cur ++ x).toList == a0.toList) = true := by rw [toList_data, toList_data, hall, beq_self_eq_true]
      clear hall
      go_wp2_with fail
      refine (slice_nat _ _ _ _ _ (by omega) rfl HE.out).mono ?_
      rintro e w' ⟨rfl, rfl⟩
      go_wp2_with fail
      refine (unslice_nat _ _ _ _ (by omega) HN.out HX.out).mono ?_
      rintro e w1 ⟨rfl, hb1⟩
      go_wp2_with fail
      refine (slice_nat _ 0 _ _ _ (by omega) hnA.out hpA.out).mono ?_
      rintro e w' ⟨rfl, rfl⟩
      go_wp2_with fail
      refine (slice_nat _ 0 _ _ _ (by omega) hnB.out hpB.out).mono ?_
      rintro e w' ⟨rfl, rfl⟩
      go_wp2_with fail
      refine (compare_is _ _ _ hcmp.out _).mono ?_
      rintro e w' ⟨rfl, rfl⟩
      go_wp2_with fail
      go_ret
      exact ⟨rfl, hnx.trans (hb1.mono hnx.size)⟩

set_option maxRecDepth 100000 in
set_option maxHeartbeats 2000000 in
theorem cut_rest (a0 a1 : ByteArray) (h0 : a0.size ≤ 1000) (h1 : a1.size ≤ 1000) (nA : Nat) (r : Int) (hA8 : 9 ≤ a0.size) (hB8 : 9 ≤ a1.size) (hr : Hid (cmp (a0.extract 8 a0.size).data.toList (a1.extract 8 a1.size).data.toList = r)) (w : World)
    (hnA : Hid (sv a0 0 8 = nA)) (hnB : Hid (sv a1 0 8 = nA)) (hpA : Hid (min (a0.size - 8 * 0) 9 = 9)) (hpB : Hid (min (a1.size - 8 * 0) 9 = 9)) (hcmp : Hid (cmp a0.data.toList a1.data.toList = r)) :
    Calls Try.prog 7 #[.string a0, .string a1] w fun e w' => e = .returned (.bool true) ∧ Below w.heap.size w w' := by
  have d0 : decide ((1000 : Int) < (a0.size : Int)) = false := by simp; omega
  have d1 : decide ((1000 : Int) < (a1.size : Int)) = false := by simp; omega
  have QR := Lib.hid fun (w : World) (n : Nat) => compare_quiet (a0.extract 8 a0.size) (a1.extract 8 a1.size) r hr.out w n
  go_enter Try.func7, Try.ntmps7
  go_wp2_with fail
  refine (awake_any _).mono ?_
  rintro e w' ⟨rfl, rfl⟩
  go_wp2_with fail
  go_loopw [5, 6] (fun t i wr => CutRel a0 w t i wr) (fun _ i _ => a0.size + 1 - (intOf i).toNat)
  case atStart => exact ⟨0, ⟨#[]⟩, by omega, rfl, rfl, by simp, Below.refl _ _⟩
  case round =>
    obtain ⟨k, cur, hk, rfl, rfl, hcur, hnx⟩ := hrel
    have HC := Lib.hid hcur
    have hcs : cur.size ≤ 1000 := by
      have e : cur.data.toList.length = cur.size := Array.length_toList
      have l : a0.data.toList.length = a0.size := Array.length_toList
      rw [hcur, List.length_take] at e
      omega
    clear hcur
    have HN := Lib.hid (sv_lt8 a0 k)
    obtain ⟨x, hx⟩ : ∃ x : ByteArray, (⟨(ubs (sv a0 k 8) (min (min (a0.size - 8 * k) 9) 8)).toArray⟩ : ByteArray) = x := ⟨_, rfl⟩
    have hxl : x.data.toList = (a0.data.toList.drop (8 * k)).take 8 := by rw [← hx, ← piece a0 k hk]
    have hxs : x.size ≤ 8 := by
      have e : x.data.toList.length = x.size := Array.length_toList
      rw [hxl, List.length_take] at e
      omega
    have hj := joined a0 cur x k HC.out hxl
    have HX := Lib.hid hx
    have HJ := Lib.hid hj
    clear hx hxl hj
    have d2 : decide ((k : Int) ≤ (a0.size : Int)) = true := by simp; omega
    have d2' : decide (k ≤ a0.size) = true := by simp; omega
    by_cases h9 : 9 ≤ a0.size - 8 * k
    · have e9 : min (a0.size - 8 * k) 9 = 9 := by omega
      rw [e9] at HX
      have HE := Lib.hid e9
      clear e9
      go_wp2_with fail
      refine (slice_nat _ _ _ _ _ (by omega) rfl HE.out).mono ?_
      rintro e w' ⟨rfl, rfl⟩
      go_wp2_with fail
      refine (unslice_nat _ _ _ _ (by omega) HN.out HX.out).mono ?_
      rintro e w1 ⟨rfl, hb1⟩
      go_wp2_with fail
      refine ⟨⟨k + 1, cur ++ x, by omega, by go_num, rfl, HJ.out, hnx.trans (hb1.mono hnx.size)⟩, by simp [intOf]; omega⟩
    · obtain ⟨c, hc⟩ : ∃ c, min (a0.size - 8 * k) 9 = c := ⟨_, rfl⟩
      have c1 : c ≤ 8 := by omega
      have c2 : 8 * k + c ≤ a0.size := by omega
      have c3 : a0.size ≤ 8 * k + c := by omega
      have g1 : ((c : Int) != 9) = true := by rw [bne_iff_ne]; omega
      have g2 : decide ((k : Int) * 8 + (c : Int) < (a0.size : Int)) = false := by simp; omega
      have g3 : decide ((c : Int) < 9) = true := by simp; omega
      rw [hc] at HX
      have HE := Lib.hid hc
      clear hc
      have hall : (cur ++ x).data.toList = a0.data.toList := by
        have l : a0.data.toList.length = a0.size := Array.length_toList
        rw [HJ.out, List.take_of_length_le (by omega)]
      have g4 : ((cur ++ x).toList == a0.toList) = true := by rw [toList_data, toList_data, hall, beq_self_eq_true]
      clear hall
      go_wp2_with fail
      refine (slice_nat _ _ _ _ _ (by omega) rfl HE.out).mono ?_
      rintro e w' ⟨rfl, rfl⟩
      go_wp2_with fail
      refine (unslice_nat _ _ _ _ (by omega) HN.out HX.out).mono ?_
      rintro e w1 ⟨rfl, hb1⟩
      go_wp2_with fail
      refine (slice_nat _ 0 _ _ _ (by omega) hnA.out hpA.out).mono ?_
      rintro e w' ⟨rfl, rfl⟩
      go_wp2_with fail
      refine (slice_nat _ 0 _ _ _ (by omega) hnB.out hpB.out).mono ?_
      rintro e w' ⟨rfl, rfl⟩
      go_wp2_with fail
      go_quiet ((go_at_call 12; with_reducible exact QR.out _ _))
      go_wp2_with fail
      refine (compare_is _ _ _ hcmp.out _).mono ?_
      rintro e w' ⟨rfl, rfl⟩
      go_wp2_with fail
      go_ret
      exact ⟨rfl, below_drewN (hnx.trans (hb1.mono hnx.size)) _⟩

theorem cut_big (a0 a1 : ByteArray) (h : 1000 < a0.size ∨ 1000 < a1.size) (w : World) :
    Calls Try.prog 7 #[.string a0, .string a1] w fun e w' => e = .returned (.bool true) ∧ Below w.heap.size w w' := by
  by_cases h0 : 1000 < a0.size
  · have d0 : decide ((1000 : Int) < (a0.size : Int)) = true := by simp; omega
    go_enter Try.func7, Try.ntmps7
    go_wp2_with fail
    refine (awake_any _).mono ?_
    rintro e w' ⟨rfl, rfl⟩
    go_wp2_with fail
    go_ret
    exact ⟨rfl, Below.refl _ _⟩
  · have d0 : decide ((1000 : Int) < (a0.size : Int)) = false := by simp; omega
    have d1 : decide ((1000 : Int) < (a1.size : Int)) = true := by simp; omega
    go_enter Try.func7, Try.ntmps7
    go_wp2_with fail
    refine (awake_any _).mono ?_
    rintro e w' ⟨rfl, rfl⟩
    go_wp2_with fail
    go_ret
    exact ⟨rfl, Below.refl _ _⟩

theorem exdrop (b : ByteArray) (k : Nat) : (b.extract k b.size).data.toList = b.data.toList.drop k := by
  have l : b.data.toList.length = b.size := Array.length_toList
  have e : (b.extract k b.size).data.toList = (b.data.toList.drop k).take (b.size - k) := by simp [ByteArray.data_extract]
  rw [e, List.take_of_length_le (by rw [List.length_drop]; omega)]

theorem sv_zero (s : ByteArray) : sv s 0 8 = vk s.data.toList 8 := by simp [sv]

theorem cut_any (a0 a1 : ByteArray) (w : World) :
    Calls Try.prog 7 #[.string a0, .string a1] w fun e w' => e = .returned (.bool true) ∧ Below w.heap.size w w' := by
  by_cases h : 1000 < a0.size ∨ 1000 < a1.size
  · exact cut_big a0 a1 h w
  have l0 : a0.data.toList.length = a0.size := Array.length_toList
  have l1 : a1.data.toList.length = a1.size := Array.length_toList
  have F := first 8 a0.data.toList a1.data.toList
  have G := first 8 a1.data.toList a0.data.toList
  have hanti := cmp_anti a0.data.toList a1.data.toList
  rw [← sv_zero, ← sv_zero, l0, l1] at F G
  rcases Nat.lt_trichotomy (sv a0 0 8) (sv a1 0 8) with hn | hn | hn
  · exact cut_lt a0 a1 (by omega) (by omega) _ _ _ _ hn w (Lib.hid rfl) (Lib.hid rfl) (Lib.hid rfl) (Lib.hid rfl) (Lib.hid (F.1 hn))
  · rcases Nat.lt_trichotomy (min a0.size 9) (min a1.size 9) with hp | hp | hp
    · exact cut_slt a0 a1 (by omega) (by omega) _ _ _ hp w (Lib.hid rfl) (Lib.hid hn.symm) (Lib.hid rfl) (Lib.hid rfl) (Lib.hid (F.2.1 hn hp))
    · have R := F.2.2 hn hp
      by_cases h9 : 9 ≤ a0.size
      · have R2 := R
        rw [← exdrop, ← exdrop] at R2
        exact cut_rest a0 a1 (by omega) (by omega) _ _ h9 (by omega) (Lib.hid rfl) w (Lib.hid rfl) (Lib.hid hn.symm) (Lib.hid (by omega)) (Lib.hid (by omega)) (Lib.hid R2)
      · rw [List.drop_eq_nil_of_le (by omega), List.drop_eq_nil_of_le (by omega)] at R
        exact cut_same a0 a1 (by omega) (by omega) _ _ (show min a0.size 9 ≤ 8 by omega) w (Lib.hid rfl) (Lib.hid hn.symm) (Lib.hid rfl) (Lib.hid hp.symm) (Lib.hid R)
    · exact cut_sgt a0 a1 (by omega) (by omega) _ _ _ hp w (Lib.hid rfl) (Lib.hid hn.symm) (Lib.hid rfl) (Lib.hid rfl) (Lib.hid (by rw [hanti, G.2.1 hn.symm hp]; rfl))
  · exact cut_gt a0 a1 (by omega) (by omega) _ _ _ _ hn w (Lib.hid rfl) (Lib.hid rfl) (Lib.hid rfl) (Lib.hid rfl) (Lib.hid (by rw [hanti, G.1 hn]; rfl))
end Go.Proofs.Ytnlmeeijellfaaa

