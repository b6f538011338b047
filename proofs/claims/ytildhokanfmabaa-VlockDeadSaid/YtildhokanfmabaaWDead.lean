/-
  VlockDead, walked.
-/
import Derived.Test.YtildhokanfmabaaWAwake
import Derived.Test.YtildhokanfmabaaArgs
namespace Go.Proofs.Ytildhokanfmabaa
open Go.RowKit
set_option linter.unusedVariables false

theorem cas_no {w : World} {g v : Nat} (h : Cel w g v) (o u : Nat) (ho : ¬ v = o) : Calls Try.prog 28 #[.pointer (some ⟨g, 0, none⟩), .int .u64 (o : Int), .int .u64 (u : Int)] w fun e w' => e = .returned (.bool false) ∧ w' = w := by
  have hc := h.cell
  have L := Lib.hid (amiss h o u ho)
  clear h ho
  go_enter Try.func28, Try.ntmps28
  go_wp2_with fail
  refine L.out.mono ?_
  rintro _ _ ⟨rfl, rfl⟩
  go_wp2_with fail
  go_ret
  exact ⟨rfl, rfl⟩

set_option maxRecDepth 100000 in
set_option maxHeartbeats 1000000 in
theorem dead_long (x o len cap : Nat) (A0 : Option Addr) (w : World) (hlen : 300 < len) (hm : len ≤ 9223372036854775807) : Calls Try.prog 8 #[.int .u64 (x : Int), .slice A0 len cap, .int .u64 (o : Int)] w fun e w' => e = .returned (.bool true) ∧ Below w.heap.size w w' := by
  have g : decide ((300 : Int) < (len : Int)) = true := by simp; omega
  have AW := Lib.hid (awake_any w)
  go_enter Try.func8, Try.ntmps8
  go_wp2_with fail
  refine AW.out.mono ?_
  rintro _ w1 ⟨rfl, ht⟩
  have T1 := Lib.hid ht
  clear ht AW
  go_wp2_with fail
  go_ret
  exact ⟨rfl, T1.out.below (Nat.le_refl _) (fun _ _ h => h)⟩

set_option maxRecDepth 100000 in
set_option maxHeartbeats 1000000 in
theorem dead_shut (x o len cap : Nat) (A0 : Option Addr) (w : World) (hlen : len ≤ 300) (hx : x < 18446744073709551616) (ho : opn x = false) : Calls Try.prog 8 #[.int .u64 (x : Int), .slice A0 len cap, .int .u64 (o : Int)] w fun e w' => e = .returned (.bool true) ∧ Below w.heap.size w w' := by
  have g : decide ((300 : Int) < (len : Int)) = false := by simp; omega
  have HO := Lib.hid ho
  clear ho
  have AW := Lib.hid (awake_any w)
  go_enter Try.func8, Try.ntmps8
  go_wp2_with fail
  refine AW.out.mono ?_
  rintro _ w1 ⟨rfl, ht⟩
  have T1 := Lib.hid ht
  clear ht AW
  have C0 : Hid (Cel (w1.alloc (.cells #[.int .u64 0] 34)) w1.heap.size 0) := Lib.hid (Cel.made w1)
  have T0 : Hid (Turn (· = w1.heap.size) w1 (w1.alloc (.cells #[.int .u64 0] 34))) := Lib.hid (made_turn w1 _ _)
  go_wp2_with fail
  refine (store_any C0.out x hx).mono ?_
  rintro _ w2 ⟨rfl, hc, ht⟩
  have C2 := Lib.hid hc
  have T2 := Lib.hid (T0.out.trans ht)
  clear hc ht C0 T0
  go_wp2_with fail
  refine (take_no C2.out HO.out).mono ?_
  rintro _ q3 ⟨rfl, hq⟩
  have hq := hq.symm
  subst hq
  go_wp2_with fail
  go_ret
  exact ⟨rfl, (T1.out.trans (T2.out.news (Nat.le_refl _))).below (Nat.le_refl _) (fun _ _ h => h)⟩

set_option maxRecDepth 100000 in
set_option maxHeartbeats 2000000 in
theorem dead_open (x o len cap : Nat) (A0 : Option Addr) (L : Nat → Nat) (w : World) (hlen : len ≤ 300) (hx : x < 18446744073709551616) (ho : opn x = true)
    (hl : Hid (∀ j, j < len → ∃ lb lo, A0 = some ⟨lb, lo, none⟩ ∧ lb < w.heap.size ∧ L j < 256 ∧ w.cell? ⟨lb, lo + j, none⟩ = some (.int .u8 (L j : Nat)))) :
    Calls Try.prog 8 #[.int .u64 (x : Int), .slice A0 len cap, .int .u64 (o : Int)] w fun e w' => e = .returned (.bool true) ∧ Below w.heap.size w w' := by
  have g300 : decide ((300 : Int) < (len : Int)) = false := by simp; omega
  have hm := opn_mod.1 ho
  obtain ⟨y, hy⟩ : ∃ y, y = x + 1 := ⟨_, rfl⟩
  obtain ⟨z, hz⟩ : ∃ z, z = kil y := ⟨_, rfl⟩
  have hz1 : z = (x + 4) % 18446744073709551616 + 2 := by
    rw [hz, hy]; unfold kil; rw [if_neg (by omega), show x + 1 - (x + 1) % 2 = x by omega]
  have hly : (lck y && !ded y) = true := by simp only [lck, ded, Bool.and_eq_true, Bool.not_eq_true', decide_eq_true_eq, decide_eq_false_iff_not]; omega
  have lz : lck z = false := by simp only [lck, decide_eq_false_iff_not]; omega
  have dz : ded z = true := by simp only [ded, decide_eq_true_eq]; omega
  have oz : opn z = false := by simp [opn, lz, dz]
  have kz : kil z = z := by unfold kil; rw [if_pos (by omega)]; omega
  have Lz := fun W => locked_any z (by omega) W
  have Dz := fun W => dead_any z (by omega) W
  have Kz := fun W => kill_any z (by omega) W
  have Vzx := fun W => valid_any z x (by omega) W
  have Vzz := fun W => valid_any z z (by omega) W
  simp only [oz, Bool.false_and] at Vzz Vzx
  rw [lz] at Lz
  rw [dz] at Dz
  rw [kz] at Kz
  replace Lz := Lib.hid Lz
  replace Dz := Lib.hid Dz
  replace Kz := Lib.hid Kz
  replace Vzx := Lib.hid Vzx
  replace Vzz := Lib.hid Vzz
  have TK : Hid (∀ (W : World) (g : Nat), Cel W g x → Calls Try.prog 14 #[.pointer (some ⟨g, 0, none⟩)] W fun e w' => e = .returned (.tuple #[.int .u64 (x : Int), .bool true]) ∧ Cel w' g y ∧ Turn (· = g) W w') := Lib.hid (fun W g h => by rw [hy]; exact take_yes h ho)
  have EN : Hid (∀ (W : World) (g : Nat), Cel W g y → Calls Try.prog 18 #[.pointer (some ⟨g, 0, none⟩)] W fun e w' => e = .returned (.bool true) ∧ Cel w' g z ∧ Turn (· = g) W w') := Lib.hid (fun W g h => by rw [hz]; exact end_yes h hly)
  have OZ := Lib.hid oz
  have LZ : Hid ((lck z && !ded z) = false) := Lib.hid (by rw [lz]; rfl)
  clear hm hy hz hz1 hly oz lz dz kz ho
  have AW := Lib.hid (awake_any w)
  go_enter Try.func8, Try.ntmps8
  go_wp2_with fail
  refine AW.out.mono ?_
  rintro _ w1 ⟨rfl, ht⟩
  have T1 := Lib.hid ht
  clear ht AW
  have C0 : Hid (Cel (w1.alloc (.cells #[.int .u64 0] 34)) w1.heap.size 0) := Lib.hid (Cel.made w1)
  have T0 : Hid (Turn (· = w1.heap.size) w1 (w1.alloc (.cells #[.int .u64 0] 34))) := Lib.hid (made_turn w1 _ _)
  go_wp2_with fail
  refine (store_any C0.out x hx).mono ?_
  rintro _ w2 ⟨rfl, hc, ht⟩
  have C2 := Lib.hid hc
  have T2 := Lib.hid (T0.out.trans ht)
  clear hc ht C0 T0
  go_wp2_with fail
  refine (TK.out _ _ C2.out).mono ?_
  rintro _ w3 ⟨rfl, hc, ht⟩
  have C3 := Lib.hid hc
  have T3 := Lib.hid (T2.out.trans ht)
  clear hc ht C2 T2
  go_wp2_with fail
  refine (EN.out _ _ C3.out).mono ?_
  rintro _ w4 ⟨rfl, hc, ht⟩
  have C4 := Lib.hid hc
  have T4 := Lib.hid (T3.out.trans ht)
  clear hc ht C3 T3
  have T4x := Lib.hid (T1.out.trans (T4.out.news (Nat.le_refl _)))
  clear T4 T1
  generalize w1.heap.size = g at C4 ⊢
  go_wp2_with fail
  refine (load_any C4.out).mono ?_
  rintro _ q5 ⟨rfl, hq⟩
  have hq := hq.symm
  subst hq
  go_wp2_with fail
  go_loop [11] (fun i => ∃ j : Nat, j ≤ len ∧ i = .int .i64 (j : Int)) (fun i => len - (intOf i).toNat)
  case atStart => exact ⟨0, by omega, rfl⟩
  case round =>
    obtain ⟨j, hj, rfl⟩ := hrel
    by_cases hlt : j < len
    · have hkl : (j : Int) < (len : Int) := by omega
      obtain ⟨lb, lo, rfl, hlb, hL1, hL2⟩ := hl.out j hlt
      obtain ⟨t, ht⟩ : ∃ t, L j = t := ⟨_, rfl⟩
      rw [ht] at hL1 hL2
      clear ht
      have hcell : w4.cell? ⟨lb, lo + j, none⟩ = some (.int .u8 (t : Int)) := (World.cell?_of_block (w := w) (T4x.out.block lb hlb (fun h => h))).trans hL2
      clear hL2
      obtain h4 | h4 | h4 | h4 : t % 4 = 0 ∨ t % 4 = 1 ∨ t % 4 = 2 ∨ t % 4 = 3 := by omega
      · have k0 : ((t : Int) % 4 == 0) = true := by simp; omega
        clear h4
        go_wp2_with fail
        refine (take_no C4.out OZ.out).mono ?_
        rintro _ q6 ⟨rfl, hq⟩
        have hq := hq.symm
        subst hq
        go_wp2_with fail
        refine (load_any C4.out).mono ?_
        rintro _ q9 ⟨rfl, hq⟩
        have hq := hq.symm
        subst hq
        go_wp2_with fail
        refine (load_any C4.out).mono ?_
        rintro _ q10 ⟨rfl, hq⟩
        have hq := hq.symm
        subst hq
        go_wp2_with fail
        refine (Dz.out _).mono ?_
        rintro _ q11 ⟨rfl, hq⟩
        have hq := hq.symm
        subst hq
        go_wp2_with fail
        go_round
        case rel => exact ⟨j + 1, by omega, by go_num⟩
        case measure => simp [intOf]; omega
      · have k0 : ((t : Int) % 4 == 0) = false := by simp; omega
        have k1 : ((t : Int) % 4 == 1) = true := by simp; omega
        clear h4
        go_wp2_with fail
        refine (give_no C4.out LZ.out).mono ?_
        rintro _ q6 ⟨rfl, hq⟩
        have hq := hq.symm
        subst hq
        go_wp2_with fail
        refine (load_any C4.out).mono ?_
        rintro _ q9 ⟨rfl, hq⟩
        have hq := hq.symm
        subst hq
        go_wp2_with fail
        refine (load_any C4.out).mono ?_
        rintro _ q10 ⟨rfl, hq⟩
        have hq := hq.symm
        subst hq
        go_wp2_with fail
        refine (Dz.out _).mono ?_
        rintro _ q11 ⟨rfl, hq⟩
        have hq := hq.symm
        subst hq
        go_wp2_with fail
        go_round
        case rel => exact ⟨j + 1, by omega, by go_num⟩
        case measure => simp [intOf]; omega
      · have k0 : ((t : Int) % 4 == 0) = false := by simp; omega
        have k1 : ((t : Int) % 4 == 1) = false := by simp; omega
        have k2 : ((t : Int) % 4 == 2) = true := by simp; omega
        clear h4
        go_wp2_with fail
        refine (end_no C4.out LZ.out).mono ?_
        rintro _ q6 ⟨rfl, hq⟩
        have hq := hq.symm
        subst hq
        go_wp2_with fail
        refine (load_any C4.out).mono ?_
        rintro _ q9 ⟨rfl, hq⟩
        have hq := hq.symm
        subst hq
        go_wp2_with fail
        refine (load_any C4.out).mono ?_
        rintro _ q10 ⟨rfl, hq⟩
        have hq := hq.symm
        subst hq
        go_wp2_with fail
        refine (Dz.out _).mono ?_
        rintro _ q11 ⟨rfl, hq⟩
        have hq := hq.symm
        subst hq
        go_wp2_with fail
        go_round
        case rel => exact ⟨j + 1, by omega, by go_num⟩
        case measure => simp [intOf]; omega
      · have k0 : ((t : Int) % 4 == 0) = false := by simp; omega
        have k1 : ((t : Int) % 4 == 1) = false := by simp; omega
        have k2 : ((t : Int) % 4 == 2) = false := by simp; omega
        have k3 : ((t : Int) % 4 == 3) = true := by simp; omega
        clear h4
        by_cases hoz : o = z
        · have ne : ((o : Int) != (z : Int)) = false := by simp [hoz]
          clear hoz
          go_wp2_with fail
          refine (load_any C4.out).mono ?_
          rintro _ q9 ⟨rfl, hq⟩
          have hq := hq.symm
          subst hq
          go_wp2_with fail
          refine (load_any C4.out).mono ?_
          rintro _ q10 ⟨rfl, hq⟩
          have hq := hq.symm
          subst hq
          go_wp2_with fail
          refine (Dz.out _).mono ?_
          rintro _ q11 ⟨rfl, hq⟩
          have hq := hq.symm
          subst hq
          go_wp2_with fail
          go_round
          case rel => exact ⟨j + 1, by omega, by go_num⟩
          case measure => simp [intOf]; omega
        · have ne : ((o : Int) != (z : Int)) = true := by
            have : ¬ (o : Int) = (z : Int) := by omega
            simp [this]
          have CS := Lib.hid (cas_no C4.out o x (fun h => hoz h.symm))
          clear hoz
          go_wp2_with fail
          refine (CS.out).mono ?_
          rintro _ q6 ⟨rfl, hq⟩
          have hq := hq.symm
          subst hq
          go_wp2_with fail
          refine (load_any C4.out).mono ?_
          rintro _ q9 ⟨rfl, hq⟩
          have hq := hq.symm
          subst hq
          go_wp2_with fail
          refine (load_any C4.out).mono ?_
          rintro _ q10 ⟨rfl, hq⟩
          have hq := hq.symm
          subst hq
          go_wp2_with fail
          refine (Dz.out _).mono ?_
          rintro _ q11 ⟨rfl, hq⟩
          have hq := hq.symm
          subst hq
          go_wp2_with fail
          go_round
          case rel => exact ⟨j + 1, by omega, by go_num⟩
          case measure => simp [intOf]; omega
    · have hd : decide ((j : Int) < (len : Int)) = false := by simp; omega
      go_wp2_with fail
      refine (Lz.out _).mono ?_
      rintro _ q7 ⟨rfl, hq⟩
      have hq := hq.symm
      subst hq
      go_wp2_with fail
      refine (Vzz.out _).mono ?_
      rintro _ q8 ⟨rfl, hq⟩
      have hq := hq.symm
      subst hq
      go_wp2_with fail
      refine (Vzx.out _).mono ?_
      rintro _ q9 ⟨rfl, hq⟩
      have hq := hq.symm
      subst hq
      go_wp2_with fail
      refine (Kz.out _).mono ?_
      rintro _ q10 ⟨rfl, hq⟩
      have hq := hq.symm
      subst hq
      go_wp2_with fail
      go_ret
      exact ⟨rfl, T4x.out.below (Nat.le_refl _) (fun _ _ h => h)⟩

theorem dead_law (x o len cap : Nat) (A0 : Option Addr) (zs : List Int) (w : World) (hx : x < 18446744073709551616) (hr : IsRow .u8 w A0 len cap zs) :
    Calls Try.prog 8 #[.int .u64 (x : Int), .slice A0 len cap, .int .u64 (o : Int)] w fun e w' => e = .returned (.bool true) ∧ Below w.heap.size w w' := by
  have hlm := row_len hr
  unfold maxLen at hlm
  by_cases hlen : 300 < len
  · exact dead_long x o len cap A0 w hlen (by omega)
  · cases ho : opn x with
    | true => exact dead_open x o len cap A0 (fun j => (zs.getD j 0).toNat) w (by omega) hx ho (Lib.hid (row_bytes hr))
    | false => exact dead_shut x o len cap A0 w (by omega) hx ho
end Go.Proofs.Ytildhokanfmabaa
