/-
  The walk of the law KeysKnown, which takes no argument: it returns true and turns nothing that was there; no condition.
-/
import Derived.Test.YtnlmeeijellfaaaWCut
import Derived.Test.YtnlmeeijellfaaaShelfB
import Derived.Deep.RegionWith
namespace Go.Proofs.Ytnlmeeijellfaaa
open Go.RowKit
open Math
set_option linter.unusedVariables false

theorem bchain {W b c : World} (h : Below W.heap.size W b) (k : Below b.heap.size b c) : Below W.heap.size W c := h.trans (k.mono h.size)

theorem check_ok (k v : ByteArray) (w : World) (hk : k.size ≤ 24) (hv : v.size ≤ 32) :
    Calls Try.prog 19 #[.string k, .string v] w fun e w' => e = .returned (.int .i64 0) ∧ w = w' := by
  have d1 : decide ((24 : Int) < (k.size : Int)) = false := by simp; omega
  have d2 : decide ((32 : Int) < (v.size : Int)) = false := by simp; omega
  go_enter Try.func19, Try.ntmps19
  go_wp2
  go_ret
  exact ⟨rfl, rfl⟩
theorem check_key (k v : ByteArray) (w : World) (hk : 24 < k.size) :
    Calls Try.prog 19 #[.string k, .string v] w fun e w' => e = .returned (.int .i64 7) ∧ w = w' := by
  have d1 : decide ((24 : Int) < (k.size : Int)) = true := by simp; omega
  go_enter Try.func19, Try.ntmps19
  go_wp2
  go_ret
  exact ⟨rfl, rfl⟩
theorem check_val (k v : ByteArray) (w : World) (hk : k.size ≤ 24) (hv : 32 < v.size) :
    Calls Try.prog 19 #[.string k, .string v] w fun e w' => e = .returned (.int .i64 7) ∧ w = w' := by
  have d1 : decide ((24 : Int) < (k.size : Int)) = false := by simp; omega
  have d2 : decide ((32 : Int) < (v.size : Int)) = true := by simp; omega
  go_enter Try.func19, Try.ntmps19
  go_wp2
  go_ret
  exact ⟨rfl, rfl⟩

theorem repeat_is (b : UInt8) (c : Nat) (x : ByteArray) (hc : c ≤ 1000) (hx : (⟨(Lib.repeatL [b] c).toArray⟩ : ByteArray) = x) (w : World) :
    Calls Try.prog 16 #[.string ⟨#[b]⟩, .int .i64 (c : Int)] w fun e w' => e = .returned (.string x) ∧ Below w.heap.size w w' := by
  subst hx
  exact Try.strings_Repeat ⟨#[b]⟩ c w (by omega) (by show 1 * c ≤ _; omega)

theorem after_is (a x : ByteArray) (hx : a ++ ⟨#[0]⟩ = x) (w : World) (h : a.size ≤ 140737488355328) :
    Calls Try.prog 14 #[.string a] w fun e w' => e = .returned (.string x) ∧ w = w' := by
  subst hx; exact after_any a w h

theorem unslice_2 (w : World) : Calls Try.prog 18 #[.int .u64 7017171169396654080, .int .i64 2] w fun e w' => e = .returned (.string ⟨#[97, 98]⟩) ∧ Below w.heap.size w w' :=
  unslice_nat 7017171169396654080 2 ⟨#[97, 98]⟩ w (by omega) (by omega) (by decide +kernel)
theorem unslice_3 (w : World) : Calls Try.prog 18 #[.int .u64 7017171169396654080, .int .i64 3] w fun e w' => e = .returned (.string ⟨#[97, 98, 0]⟩) ∧ Below w.heap.size w w' :=
  unslice_nat 7017171169396654080 3 ⟨#[97, 98, 0]⟩ w (by omega) (by omega) (by decide +kernel)
theorem repeat_32 (x : ByteArray) (hx : (⟨(Lib.repeatL [118] 32).toArray⟩ : ByteArray) = x) (w : World) : Calls Try.prog 16 #[.string ⟨#[118]⟩, .int .i64 32] w fun e w' => e = .returned (.string x) ∧ Below w.heap.size w w' :=
  repeat_is 118 32 x (by omega) hx w
theorem repeat_33 (x : ByteArray) (hx : (⟨(Lib.repeatL [118] 33).toArray⟩ : ByteArray) = x) (w : World) : Calls Try.prog 16 #[.string ⟨#[118]⟩, .int .i64 33] w fun e w' => e = .returned (.string x) ∧ Below w.heap.size w w' :=
  repeat_is 118 33 x (by omega) hx w

set_option maxRecDepth 100000 in
set_option maxHeartbeats 2000000 in
theorem known_walk (l v32 v33 : ByteArray) (w : World) (h25 : Hid ((⟨(Lib.repeatL [107] 25).toArray⟩ : ByteArray) = l)) (h32 : Hid ((⟨(Lib.repeatL [118] 32).toArray⟩ : ByteArray) = v32)) (h33 : Hid ((⟨(Lib.repeatL [118] 33).toArray⟩ : ByteArray) = v33))
    (l1 : l.size ≤ 25) (l2 : 25 ≤ l.size) (s1 : v32.size ≤ 32) (s2 : 33 ≤ v33.size) :
    Calls Try.prog 3 #[] w fun e w' => e = .returned (.bool true) ∧ Below w.heap.size w w' := by
  have R32 := Lib.hid (repeat_32 v32 h32.out)
  have R33 := Lib.hid (repeat_33 v33 h33.out)
  have U2 := Lib.hid unslice_2
  have U3 := Lib.hid unslice_3
  have U0 := Lib.hid fun (w : World) => unslice_no 7017171169396654080 0 w (by omega)
  have K1 := Lib.hid fun (w : World) => check_ok (l.extract 1 l.size) v32 w (by rw [ByteArray.size_extract]; omega) s1
  have K2 := Lib.hid fun (w : World) => check_key l ⟨#[]⟩ w (by omega)
  have K3 := Lib.hid fun (w : World) => check_val ⟨#[]⟩ v33 w (by decide) (by omega)
  go_enter Try.func3, Try.ntmps3
  go_wp2_with fail
  refine (between_is ⟨#[97, 98, 99]⟩ ⟨#[97, 98, 100]⟩ ⟨#[97, 98, 100]⟩ _ (by decide) (by decide) (by decide) (by decide +kernel)).mono ?_
  rintro e w1 ⟨rfl, hb1⟩
  go_wp2_with fail
  refine (between_is ⟨#[97, 98]⟩ ⟨#[97, 98, 99, 100]⟩ ⟨#[97, 98, 99]⟩ _ (by decide) (by decide) (by decide) (by decide +kernel)).mono ?_
  rintro e w2 ⟨rfl, hb2⟩
  go_wp2_with fail
  refine (between_no ⟨#[98]⟩ ⟨#[97]⟩ _ (by decide)).mono ?_
  rintro e w' ⟨rfl, rfl⟩
  go_wp2_with fail
  refine (compare_is _ _ 0 (by decide) _).mono ?_
  rintro e w' ⟨rfl, rfl⟩
  go_wp2_with fail
  refine (common_is ⟨#[97, 98, 99]⟩ ⟨#[97, 98, 100]⟩ 2 (by decide) _ (by decide) (by decide)).mono ?_
  rintro e w' ⟨rfl, n1, rfl⟩
  go_wp2_with fail
  refine (after_is ⟨#[97]⟩ ⟨#[97, 0]⟩ (by decide +kernel) _ (by decide)).mono ?_
  rintro e w' ⟨rfl, rfl⟩
  go_wp2_with fail
  refine (slice_nat ⟨#[49, 50, 51, 52, 53, 54, 55, 56]⟩ 0 3544952156018063160 8 _ (by decide) (by decide +kernel) (by decide)).mono ?_
  rintro e w' ⟨rfl, rfl⟩
  go_wp2_with fail
  refine (slice_nat ⟨#[49, 50, 51, 52, 53, 54, 55, 56, 57]⟩ 0 3544952156018063160 9 _ (by decide) (by decide +kernel) (by decide)).mono ?_
  rintro e w' ⟨rfl, rfl⟩
  go_wp2_with fail
  refine (slice_nat ⟨#[49, 50, 51, 52, 53, 54, 55, 56, 57]⟩ 1 4107282860161892352 1 _ (by decide) (by decide +kernel) (by decide)).mono ?_
  rintro e w' ⟨rfl, rfl⟩
  go_wp2_with fail
  refine (slice_nat ⟨#[97, 98]⟩ 1 0 0 _ (by decide) (by decide +kernel) (by decide)).mono ?_
  rintro e w' ⟨rfl, rfl⟩
  go_wp2_with fail
  refine (repeat_is 107 25 l (by omega) h25.out _).mono ?_
  rintro e w3 ⟨rfl, hb3⟩
  have hb : Below w.heap.size w w3 := (hb1.trans (hb2.mono hb1.size)).trans (below_of_drewN (hb3.mono (Nat.le_trans hb1.size hb2.size)))
  clear hb1 hb2 hb3
  go_wp2_with fail
  go_region_with (first | (go_at_call 17; (with_reducible refine (awake_any _).mono ?_); rintro e w' ⟨rfl, rfl⟩) | (go_at_call 18; (with_reducible refine (U2.out _).mono ?_); rintro e wA ⟨rfl, hbA⟩) | (go_at_call 18; (with_reducible refine (U3.out _).mono ?_); rintro e wB ⟨rfl, hbB⟩) | (go_at_call 18; (with_reducible refine (U0.out _).mono ?_); rintro e w' ⟨rfl, rfl⟩) | (go_at_call 16; (with_reducible refine (R32.out _).mono ?_); rintro e wC ⟨rfl, hbC⟩) | (go_at_call 16; (with_reducible refine (R33.out _).mono ?_); rintro e wD ⟨rfl, hbD⟩) | (go_at_call 19; (with_reducible refine (K1.out _).mono ?_); rintro e w' ⟨rfl, rfl⟩) | (go_at_call 19; (with_reducible refine (K2.out _).mono ?_); rintro e w' ⟨rfl, rfl⟩) | (go_at_call 19; (with_reducible refine (K3.out _).mono ?_); rintro e w' ⟨rfl, rfl⟩))
  all_goals
    go_wp2_with fail
    go_ret
    exact ⟨rfl, bchain (bchain (bchain (bchain hb.drew hbA) hbB) hbC) hbD⟩

theorem known_any (w : World) : Calls Try.prog 3 #[] w fun e w' => e = .returned (.bool true) ∧ Below w.heap.size w w' :=
  known_walk _ _ _ w (Lib.hid rfl) (Lib.hid rfl) (Lib.hid rfl) (by decide) (by decide) (by decide) (by decide)
end Go.Proofs.Ytnlmeeijellfaaa

