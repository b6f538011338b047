/-
  VlockAlone, walked.
-/
import Derived.Test.YtildhokanfmabaaWAwake
namespace Go.Proofs.Ytildhokanfmabaa
open Go.RowKit
set_option linter.unusedVariables false

set_option maxRecDepth 100000 in
set_option maxHeartbeats 1000000 in
theorem alone_shut (x a : Nat) (hx : x < 18446744073709551616) (ho : opn x = false) (w : World) : Calls Try.prog 7 #[.int .u64 (x : Int), .int .u8 (a : Int)] w fun e w' => e = .returned (.bool true) ∧ Below w.heap.size w w' := by
  have B := fun W => begin_any x hx W
  simp only [ho, Bool.false_eq_true, if_false] at B
  replace B := Lib.hid B
  have HO := Lib.hid ho
  clear ho
  have AW := Lib.hid (awake_any w)
  go_enter Try.func7, Try.ntmps7
  go_wp2_with fail
  refine AW.out.mono ?_
  rintro _ w1 ⟨rfl, ht⟩
  have T1 := Lib.hid ht
  clear ht AW
  have C0 : Hid (Cel (w1.alloc (.cells #[.int .u64 0] 34)) w1.heap.size 0) := Lib.hid (Cel.made w1)
  have T0 : Hid (Turn (· = w1.heap.size) w1 (w1.alloc (.cells #[.int .u64 0] 34))) := Lib.hid (made_turn w1 _ _)
  go_wp2_with fail
  refine (store_any C0.out x hx).mono ?_
  rintro _ w2 ⟨rfl, hc, ht⟩
  have C2 := Lib.hid hc
  have T2 := Lib.hid (T0.out.trans ht)
  clear hc ht C0 T0
  go_wp2_with fail
  refine (B.out w2).mono ?_
  rintro _ q3 ⟨rfl, hq⟩
  have hq := hq.symm
  subst hq
  go_wp2_with fail
  refine (take_no C2.out HO.out).mono ?_
  rintro _ q4 ⟨rfl, hq⟩
  have hq := hq.symm
  subst hq
  go_wp2_with fail
  refine (load_any C2.out).mono ?_
  rintro _ q5 ⟨rfl, hq⟩
  have hq := hq.symm
  subst hq
  go_wp2_with fail
  go_ret
  exact ⟨rfl, (T1.out.trans (T2.out.news (Nat.le_refl _))).below (Nat.le_refl _) (fun _ _ h => h)⟩

set_option maxRecDepth 100000 in
set_option maxHeartbeats 1000000 in
theorem alone_open (x a : Nat) (hx : x < 18446744073709551616) (ha : a < 256) (ho : opn x = true) (w : World) : Calls Try.prog 7 #[.int .u64 (x : Int), .int .u8 (a : Int)] w fun e w' => e = .returned (.bool true) ∧ Below w.heap.size w w' := by
  have hm := opn_mod.1 ho
  obtain ⟨y, hy⟩ : ∃ y, y = x + 1 := ⟨_, rfl⟩
  obtain ⟨z, hz⟩ : ∃ z, z = unl y := ⟨_, rfl⟩
  have hz1 : z = (x + 4) % 18446744073709551616 := by rw [hz, hy]; unfold unl; rw [if_pos (by omega)]; rfl
  have oy : opn y = false := by
    cases h : opn y with
    | false => rfl
    | true => have := opn_mod.1 h; omega
  have hly : (lck y && !ded y) = true := by simp only [lck, ded, Bool.and_eq_true, Bool.not_eq_true', decide_eq_true_eq, decide_eq_false_iff_not]; omega
  have oz : opn z = true := opn_mod.2 (by omega)
  have lz : lck z = false := by simp only [lck, decide_eq_false_iff_not]; omega
  have dz : ded z = false := by simp only [ded, decide_eq_false_iff_not]; omega
  have nzx : ((z : Int) != (x : Int)) = true := by
    have : ¬ (z : Int) = (x : Int) := by omega
    simp [this]
  have b0 : (0 : Int) ≤ (a : Int) % 100 := by omega
  have b1 : (a : Int) % 100 < 100 := by omega
  have B := fun W => begin_any x hx W
  have By := fun W => begin_any y (by omega) W
  have Bz := fun W => begin_any z (by omega) W
  have Lz := fun W => locked_any z (by omega) W
  have Dz := fun W => dead_any z (by omega) W
  have Vyx := fun W => valid_any y x (by omega) W
  have Vyy := fun W => valid_any y y (by omega) W
  have Vzx := fun W => valid_any z x (by omega) W
  have Vzz := fun W => valid_any z z (by omega) W
  simp only [ho, if_true] at B
  simp only [oy, Bool.false_eq_true, if_false] at By
  simp only [oy, Bool.false_and] at Vyx Vyy
  simp only [oz, if_true] at Bz
  simp only [oz, Bool.true_and, decide_true] at Vzz
  simp only [oz, Bool.true_and, show ¬ z = x by omega, decide_false] at Vzx
  rw [lz] at Lz
  rw [dz] at Dz
  replace B := Lib.hid B
  replace By := Lib.hid By
  replace Bz := Lib.hid Bz
  replace Lz := Lib.hid Lz
  replace Dz := Lib.hid Dz
  replace Vyx := Lib.hid Vyx
  replace Vyy := Lib.hid Vyy
  replace Vzx := Lib.hid Vzx
  replace Vzz := Lib.hid Vzz
  have TK : Hid (∀ (W : World) (g : Nat), Cel W g x → Calls Try.prog 14 #[.pointer (some ⟨g, 0, none⟩)] W fun e w' => e = .returned (.tuple #[.int .u64 (x : Int), .bool true]) ∧ Cel w' g y ∧ Turn (· = g) W w') := Lib.hid (fun W g h => by rw [hy]; exact take_yes h ho)
  have GV : Hid (∀ (W : World) (g : Nat), Cel W g y → Calls Try.prog 15 #[.pointer (some ⟨g, 0, none⟩)] W fun e w' => e = .returned (.bool true) ∧ Cel w' g z ∧ Turn (· = g) W w') := Lib.hid (fun W g h => by rw [hz]; exact give_yes h hly)
  have OY := Lib.hid oy
  have LZ : Hid ((lck z && !ded z) = false) := Lib.hid (by rw [lz]; rfl)
  clear hm hy hz hz1 oy hly oz lz dz ho
  have AW := Lib.hid (awake_any w)
  go_enter Try.func7, Try.ntmps7
  go_wp2_with fail
  refine AW.out.mono ?_
  rintro _ w1 ⟨rfl, ht⟩
  have T1 := Lib.hid ht
  clear ht AW
  have C0 : Hid (Cel (w1.alloc (.cells #[.int .u64 0] 34)) w1.heap.size 0) := Lib.hid (Cel.made w1)
  have T0 : Hid (Turn (· = w1.heap.size) w1 (w1.alloc (.cells #[.int .u64 0] 34))) := Lib.hid (made_turn w1 _ _)
  go_wp2_with fail
  refine (store_any C0.out x hx).mono ?_
  rintro _ w2 ⟨rfl, hc, ht⟩
  have C2 := Lib.hid hc
  have T2 := Lib.hid (T0.out.trans ht)
  clear hc ht C0 T0
  go_wp2_with fail
  refine (B.out w2).mono ?_
  rintro _ q3 ⟨rfl, hq⟩
  have hq := hq.symm
  subst hq
  go_wp2_with fail
  refine (TK.out _ _ C2.out).mono ?_
  rintro _ w4 ⟨rfl, hc, ht⟩
  have C4 := Lib.hid hc
  have T4 := Lib.hid (T2.out.trans ht)
  clear hc ht C2 T2
  have T4x := Lib.hid (T1.out.trans (T4.out.news (Nat.le_refl _)))
  have hg : w.heap.size ≤ w1.heap.size := T1.out.size
  clear T4 T1
  generalize w1.heap.size = g at C4 hg ⊢
  go_wp2_with fail
  refine (load_any C4.out).mono ?_
  rintro _ q5 ⟨rfl, hq⟩
  have hq := hq.symm
  subst hq
  go_wp2_with fail
  go_loop [11] (fun i => ∃ j : Nat, (j : Int) ≤ (a : Int) % 100 ∧ i = .int .i64 (j : Int)) (fun i => 100 - (intOf i).toNat)
  case atStart => exact ⟨0, by omega, rfl⟩
  case round =>
    obtain ⟨j, hj, rfl⟩ := hrel
    by_cases hlt : (j : Int) < (a : Int) % 100
    · have hd : decide ((j : Int) < (a : Int) % 100) = true := by simp [hlt]
      go_wp2_with fail
      refine (take_no C4.out OY.out).mono ?_
      rintro _ q6 ⟨rfl, hq⟩
      have hq := hq.symm
      subst hq
      go_wp2_with fail
      refine (load_any C4.out).mono ?_
      rintro _ q7 ⟨rfl, hq⟩
      have hq := hq.symm
      subst hq
      go_wp2_with fail
      refine (By.out _).mono ?_
      rintro _ q8 ⟨rfl, hq⟩
      have hq := hq.symm
      subst hq
      go_wp2_with fail
      refine (load_any C4.out).mono ?_
      rintro _ q9 ⟨rfl, hq⟩
      have hq := hq.symm
      subst hq
      go_wp2_with fail
      refine (load_any C4.out).mono ?_
      rintro _ q10 ⟨rfl, hq⟩
      have hq := hq.symm
      subst hq
      go_wp2_with fail
      refine (Vyx.out _).mono ?_
      rintro _ q11 ⟨rfl, hq⟩
      have hq := hq.symm
      subst hq
      go_wp2_with fail
      refine (load_any C4.out).mono ?_
      rintro _ q12 ⟨rfl, hq⟩
      have hq := hq.symm
      subst hq
      go_wp2_with fail
      refine (Vyy.out _).mono ?_
      rintro _ q13 ⟨rfl, hq⟩
      have hq := hq.symm
      subst hq
      go_wp2_with fail
      go_round
      case rel => exact ⟨j + 1, by omega, by go_num⟩
      case measure => simp [intOf]; omega
    · have hd : decide ((j : Int) < (a : Int) % 100) = false := by simp; omega
      go_wp2_with fail
      refine (GV.out _ _ C4.out).mono ?_
      rintro _ w6 ⟨rfl, hc, ht⟩
      have C6 := Lib.hid hc
      have T6 := Lib.hid (T4x.out.then ht (fun i hi h => by omega))
      clear hc ht
      go_wp2_with fail
      refine (give_no C6.out LZ.out).mono ?_
      rintro _ q7 ⟨rfl, hq⟩
      have hq := hq.symm
      subst hq
      go_wp2_with fail
      refine (end_no C6.out LZ.out).mono ?_
      rintro _ q8 ⟨rfl, hq⟩
      have hq := hq.symm
      subst hq
      go_wp2_with fail
      refine (load_any C6.out).mono ?_
      rintro _ q9 ⟨rfl, hq⟩
      have hq := hq.symm
      subst hq
      go_wp2_with fail
      refine (Bz.out _).mono ?_
      rintro _ q10 ⟨rfl, hq⟩
      have hq := hq.symm
      subst hq
      go_wp2_with fail
      refine (Lz.out _).mono ?_
      rintro _ q11 ⟨rfl, hq⟩
      have hq := hq.symm
      subst hq
      go_wp2_with fail
      refine (Dz.out _).mono ?_
      rintro _ q12 ⟨rfl, hq⟩
      have hq := hq.symm
      subst hq
      go_wp2_with fail
      refine (Vzx.out _).mono ?_
      rintro _ q13 ⟨rfl, hq⟩
      have hq := hq.symm
      subst hq
      go_wp2_with fail
      refine (Vzz.out _).mono ?_
      rintro _ q14 ⟨rfl, hq⟩
      have hq := hq.symm
      subst hq
      go_wp2_with fail
      go_ret
      exact ⟨rfl, T6.out.below (Nat.le_refl _) (fun _ _ h => h)⟩

theorem alone_any (x a : Nat) (hx : x < 18446744073709551616) (ha : a < 256) (w : World) : Calls Try.prog 7 #[.int .u64 (x : Int), .int .u8 (a : Int)] w fun e w' => e = .returned (.bool true) ∧ Below w.heap.size w w' := by
  cases ho : opn x with
  | true => exact alone_open x a hx ha ho w
  | false => exact alone_shut x a hx ho w
end Go.Proofs.Ytildhokanfmabaa
