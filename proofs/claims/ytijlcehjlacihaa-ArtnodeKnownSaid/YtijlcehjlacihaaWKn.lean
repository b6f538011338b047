/-
  ArtnodeKnown, walked.
-/
import Derived.Test.YtijlcehjlacihaaKn
namespace Go.Proofs.Ytijlcehjlacihaa
open Go.RowKit Go.Lib
set_option linter.unusedVariables false
set_option maxRecDepth 20000
set_option linter.unusedSimpArgs false


set_option maxHeartbeats 8000000 in
theorem known_any (w : World) : Calls Try.prog 6 #[] w fun e w' => e = .returned (.bool true) ∧ Below w.heap.size w w' := by
  have CW := Lib.hid fun W => wakes_any W
  have CN := Lib.hid (NS.new_any (Z := Dom.of w.heap.size) w (Nat.le_refl _))
  have CNI := Lib.hid fun W => NI.new_any (Z := Dom.of W.heap.size) W (Nat.le_refl _)
  go_enter Try.func6, Try.ntmps6
  go_upto_region 2 with (go_at_call 22; (with_reducible refine CN.out.mono ?_); rintro e w1 ⟨a, rfl, hn, _, ht⟩; have h0 := Lib.hid (show Nw w w1 a 4 k0 from ⟨hn, ht⟩); clear hn ht)
  go_upto_region 3 with (first | (go_at_call 23; (with_reducible refine (c0 h0.out).mono ?_); rintro e w_ ⟨rfl, hw⟩; replace hw := hw.symm; subst hw) | (go_at_call 24; (with_reducible refine (p01 h0.out).mono ?_); rintro e w_h1 ⟨rfl, h1⟩; replace h1 := Lib.hid h1) | (go_at_call 24; (with_reducible refine (p12 h1.out).mono ?_); rintro e w_h2 ⟨rfl, h2⟩; replace h2 := Lib.hid h2) | (go_at_call 25; (with_reducible refine (e2 h2.out).mono ?_); rintro e w_ ⟨rfl, hw⟩; replace hw := hw.symm; subst hw))
  go_upto_region 4 with (go_at_call 26; (with_reducible refine (g2 h2.out).mono ?_); rintro e w_h3 ⟨rfl, h3⟩; replace h3 := Lib.hid h3)
  go_upto_region 7 with (first | (go_at_call 24; (with_reducible refine (p23 h3.out).mono ?_); rintro e w_h4 ⟨rfl, h4⟩; replace h4 := Lib.hid h4) | (go_at_call 24; (with_reducible refine (p34 h4.out).mono ?_); rintro e w_h5 ⟨rfl, h5⟩; replace h5 := Lib.hid h5) | (go_at_call 24; (with_reducible refine (p45 h5.out).mono ?_); rintro e w_h6 ⟨rfl, h6⟩; replace h6 := Lib.hid h6))
  go_upto_region 8 with (go_at_call 23; (with_reducible refine (c5 h6.out).mono ?_); rintro e w_ ⟨rfl, hw⟩; replace hw := hw.symm; subst hw)
  go_upto_region 9 with (go_at_call 24; (with_reducible refine (p56 h6.out).mono ?_); rintro e w_h7 ⟨rfl, h7⟩; replace h7 := Lib.hid h7)
  go_upto_region 12 with (first | (go_at_call 27; (with_reducible refine (fa h7.out).mono ?_); rintro e w_h8 ⟨rfl, h8⟩; replace h8 := Lib.hid h8) | (go_at_call 27; (with_reducible refine (fb h8.out).mono ?_); rintro e w_h9 ⟨rfl, h9⟩; replace h9 := Lib.hid h9) | (go_at_call 27; (with_reducible refine (fc h9.out).mono ?_); rintro e w_h10 ⟨rfl, h10⟩; replace h10 := Lib.hid h10))
  go_upto_region 13 with (go_at_call 23; (with_reducible refine (c6 h10.out).mono ?_); rintro e w_ ⟨rfl, hw⟩; replace hw := hw.symm; subst hw)
  go_upto_region 14 with (first | (go_at_call 28; (with_reducible refine (d67 h10.out).mono ?_); rintro e w_h11 ⟨rfl, h11⟩; replace h11 := Lib.hid h11) | (go_at_call 28; (with_reducible refine (d77 h11.out).mono ?_); rintro e w_h12 ⟨rfl, h12⟩; replace h12 := Lib.hid h12) | (go_at_call 23; (with_reducible refine (c7 h12.out).mono ?_); rintro e w_ ⟨rfl, hw⟩; replace hw := hw.symm; subst hw) | (go_at_call 28; (with_reducible refine (d78 h12.out).mono ?_); rintro e w_h13 ⟨rfl, h13⟩; replace h13 := Lib.hid h13) | (go_at_call 23; (with_reducible refine (c8 h13.out).mono ?_); rintro e w_ ⟨rfl, hw⟩; replace hw := hw.symm; subst hw))
  clear h0 h1 h2 h3 h4 h5 h6 h7 h8 h9 h10 h11 h12
  go_upto_region 16 with (go_at_call 9; (with_reducible refine (CNI.out _).mono ?_); rintro e w2 ⟨a2, rfl, hn, _, ht⟩; have H2 := Lib.hid (And.intro hn ht); clear hn ht)
  have HB := Lib.hid H2.out.2
  have HS1 := Lib.hid h13.out.tu
  have hW : Hid (Turn No w w2) := Lib.hid (HS1.out.trans HB.out)
  have HN0 : Hid (Nn w w2 a2 (kfit 0) (full 0)) := Lib.hid ⟨by
    obtain ⟨t, g, hz, hat, hs, hk⟩ := H2.out.1
    exact ⟨t, g, (Dom.le_of HS1.out.size).2 _ hz, hat, hs.mono (Dom.le_of HS1.out.size), hk⟩, hW.out⟩
  clear H2 HB hW
  go_loopw [18] (fun s wr => ∃ i : Nat, i ≤ 256 ∧ s = .int .i64 (i : Int) ∧ Hid (Nn w wr a2 (kfit i) (full i))) (fun s _ => 256 - (RowKit.intOf s).toNat)
  case atStart => exact ⟨0, by decide, rfl, HN0⟩
  case round =>
    clear HN0
    obtain ⟨i, hi, rfl, HP⟩ := hrel
    by_cases hlt : i < 256
    · have CP := Lib.hid (HP.out.put hlt)
      have hwu : IntKind.u8.wrap (i : Int) = (i : Int) := by rw [IntKind.wrap_u8]; omega
      have HI := Lib.hid hlt
      have hlt2 : (i : Int) < 256 := by omega
      clear hi
      rcases (by omega : i < 4 ∨ (4 ≤ i ∧ i < 16) ∨ (16 ≤ i ∧ i < 48) ∨ 48 ≤ i) with hc | hc | hc | hc
      · skip
        have lt48 : (i : Int) < 48 := by omega
        have lt16 : (i : Int) < 16 := by omega
        have lt4 : (i : Int) < 4 := by omega
        have HK : Hid (kfit (i + 1) = 4) := Lib.hid (by unfold kfit; repeat (first | rw [if_pos (by omega)] | rw [if_neg (by omega)]))
        clear hc
        go_wp2_with (first | (go_at_call 11; (with_reducible refine CP.out.mono ?_); rintro e w4 ⟨rfl, h4⟩; have CK := Lib.hid (show Calls Try.prog 21 #[.pointer (some ⟨a2, 0, none⟩)] w4 fun e w' => e = .returned (.int .i64 4) ∧ w' = w4 by have := NI.kind_any h4.nd; rw [HK.out] at this; exact this); replace h4 := Lib.hid h4) | (go_at_call 21; (with_reducible refine CK.out.mono ?_); rintro e w5 ⟨rfl, hw⟩; replace hw := hw.symm; subst hw))
        exact ⟨⟨i + 1, by have := HI.out; omega, by go_num, h4⟩, by have := HI.out; simp [RowKit.intOf]; omega⟩
      · skip
        have lt48 : (i : Int) < 48 := by omega
        have lt16 : (i : Int) < 16 := by omega
        have lt4 : ¬ ((i : Int) < 4) := by omega
        have HK : Hid (kfit (i + 1) = 16) := Lib.hid (by unfold kfit; repeat (first | rw [if_pos (by omega)] | rw [if_neg (by omega)]))
        clear hc
        go_wp2_with (first | (go_at_call 11; (with_reducible refine CP.out.mono ?_); rintro e w4 ⟨rfl, h4⟩; have CK := Lib.hid (show Calls Try.prog 21 #[.pointer (some ⟨a2, 0, none⟩)] w4 fun e w' => e = .returned (.int .i64 16) ∧ w' = w4 by have := NI.kind_any h4.nd; rw [HK.out] at this; exact this); replace h4 := Lib.hid h4) | (go_at_call 21; (with_reducible refine CK.out.mono ?_); rintro e w5 ⟨rfl, hw⟩; replace hw := hw.symm; subst hw))
        exact ⟨⟨i + 1, by have := HI.out; omega, by go_num, h4⟩, by have := HI.out; simp [RowKit.intOf]; omega⟩
      · skip
        have lt48 : (i : Int) < 48 := by omega
        have lt16 : ¬ ((i : Int) < 16) := by omega
        have lt4 : ¬ ((i : Int) < 4) := by omega
        have HK : Hid (kfit (i + 1) = 48) := Lib.hid (by unfold kfit; repeat (first | rw [if_pos (by omega)] | rw [if_neg (by omega)]))
        clear hc
        go_wp2_with (first | (go_at_call 11; (with_reducible refine CP.out.mono ?_); rintro e w4 ⟨rfl, h4⟩; have CK := Lib.hid (show Calls Try.prog 21 #[.pointer (some ⟨a2, 0, none⟩)] w4 fun e w' => e = .returned (.int .i64 48) ∧ w' = w4 by have := NI.kind_any h4.nd; rw [HK.out] at this; exact this); replace h4 := Lib.hid h4) | (go_at_call 21; (with_reducible refine CK.out.mono ?_); rintro e w5 ⟨rfl, hw⟩; replace hw := hw.symm; subst hw))
        exact ⟨⟨i + 1, by have := HI.out; omega, by go_num, h4⟩, by have := HI.out; simp [RowKit.intOf]; omega⟩
      · skip
        have lt48 : ¬ ((i : Int) < 48) := by omega
        have lt16 : ¬ ((i : Int) < 16) := by omega
        have lt4 : ¬ ((i : Int) < 4) := by omega
        have HK : Hid (kfit (i + 1) = 256) := Lib.hid (by unfold kfit; repeat (first | rw [if_pos (by omega)] | rw [if_neg (by omega)]))
        clear hc
        go_wp2_with (first | (go_at_call 11; (with_reducible refine CP.out.mono ?_); rintro e w4 ⟨rfl, h4⟩; have CK := Lib.hid (show Calls Try.prog 21 #[.pointer (some ⟨a2, 0, none⟩)] w4 fun e w' => e = .returned (.int .i64 256) ∧ w' = w4 by have := NI.kind_any h4.nd; rw [HK.out] at this; exact this); replace h4 := Lib.hid h4) | (go_at_call 21; (with_reducible refine CK.out.mono ?_); rintro e w5 ⟨rfl, hw⟩; replace hw := hw.symm; subst hw))
        exact ⟨⟨i + 1, by have := HI.out; omega, by go_num, h4⟩, by have := HI.out; simp [RowKit.intOf]; omega⟩
    · have he256 : i = 256 := by omega
      have hnl : ¬ ((i : Int) < 256) := by omega
      obtain ⟨w3, hw3⟩ : ∃ x, x = wr := ⟨_, rfl⟩
      subst hw3
      have HQ : Hid (Nn w w3 a2 (kdr 256) (full 256)) := by rw [he256] at HP; exact HP
      clear HP he256 hi hlt
      go_wp2_with fail
      go_loopw [20] (fun s wr => ∃ d : Nat, d ≤ 256 ∧ ((d = 0 ∧ s = .int .i64 (-1)) ∨ ∃ e : Nat, d = e + 1 ∧ s = .int .i64 (e : Int)) ∧ Hid (Nn w wr a2 (kdr d) (full d))) (fun s _ => (RowKit.intOf s + 1).toNat)
      case atStart => exact ⟨256, by decide, .inr ⟨255, rfl, rfl⟩, HQ⟩
      case round =>
      clear HQ
      obtain ⟨d, hd, hs, HP⟩ := hrel
      rcases hs with ⟨rfl, rfl⟩ | ⟨e, rfl, rfl⟩
      · clear hd
        go_wp2_with (go_at_call 8; (with_reducible refine (CW.out _).mono ?_); rintro e w5 ⟨rfl, ht⟩; replace ht := Lib.hid ht)
        go_ret
        exact ⟨rfl, (HP.out.tu.trans ht.out).below (Nat.le_refl _) (fun _ _ h => h)⟩
      have CP := Lib.hid (HP.out.drop (by omega))
      have hwu : IntKind.u8.wrap (e : Int) = (e : Int) := by rw [IntKind.wrap_u8]; omega
      have HI := Lib.hid hd
      have he0 : (0 : Int) ≤ (e : Int) := by omega
      clear hd
      rcases (by omega : e ≤ 3 ∨ (4 ≤ e ∧ e ≤ 12) ∨ (13 ≤ e ∧ e ≤ 36) ∨ 37 ≤ e) with hc | hc | hc | hc
      · skip
        have lt36 : (e : Int) ≤ 36 := by omega
        have lt12 : (e : Int) ≤ 12 := by omega
        have lt3 : (e : Int) ≤ 3 := by omega
        have HK : Hid (kdr e = 4) := Lib.hid (by unfold kdr; repeat (first | rw [if_pos (by omega)] | rw [if_neg (by omega)]))
        clear hc
        go_wp2_with (first | (go_at_call 13; (with_reducible refine CP.out.mono ?_); rintro ee w4 ⟨rfl, h4⟩; have CK := Lib.hid (show Calls Try.prog 21 #[.pointer (some ⟨a2, 0, none⟩)] w4 fun e w' => e = .returned (.int .i64 4) ∧ w' = w4 by have := NI.kind_any h4.nd; rw [HK.out] at this; exact this); replace h4 := Lib.hid h4) | (go_at_call 21; (with_reducible refine CK.out.mono ?_); rintro ee w5 ⟨rfl, hw⟩; replace hw := hw.symm; subst hw))
        refine ⟨⟨e, by have := HI.out; omega, by
          have h1 := HI.out
          have hd := dec_rl (e := e) (by omega)
          have hw : wrap64 ((e : Int) - 1) = (e : Int) - 1 := by simp only [wrap64]; omega
          first | exact hd | (rw [hw] at hd; exact hd), h4⟩, ?_⟩
        have h1 := HI.out
        have hw : wrap64 ((e : Int) - 1) = (e : Int) - 1 := by simp only [wrap64]; omega
        try rw [hw]
        show ((e : Int) - 1 + 1).toNat < ((e : Int) + 1).toNat
        omega
      · skip
        have lt36 : (e : Int) ≤ 36 := by omega
        have lt12 : (e : Int) ≤ 12 := by omega
        have lt3 : ¬ ((e : Int) ≤ 3) := by omega
        have HK : Hid (kdr e = 16) := Lib.hid (by unfold kdr; repeat (first | rw [if_pos (by omega)] | rw [if_neg (by omega)]))
        clear hc
        go_wp2_with (first | (go_at_call 13; (with_reducible refine CP.out.mono ?_); rintro ee w4 ⟨rfl, h4⟩; have CK := Lib.hid (show Calls Try.prog 21 #[.pointer (some ⟨a2, 0, none⟩)] w4 fun e w' => e = .returned (.int .i64 16) ∧ w' = w4 by have := NI.kind_any h4.nd; rw [HK.out] at this; exact this); replace h4 := Lib.hid h4) | (go_at_call 21; (with_reducible refine CK.out.mono ?_); rintro ee w5 ⟨rfl, hw⟩; replace hw := hw.symm; subst hw))
        refine ⟨⟨e, by have := HI.out; omega, by
          have h1 := HI.out
          have hd := dec_rl (e := e) (by omega)
          have hw : wrap64 ((e : Int) - 1) = (e : Int) - 1 := by simp only [wrap64]; omega
          first | exact hd | (rw [hw] at hd; exact hd), h4⟩, ?_⟩
        have h1 := HI.out
        have hw : wrap64 ((e : Int) - 1) = (e : Int) - 1 := by simp only [wrap64]; omega
        try rw [hw]
        show ((e : Int) - 1 + 1).toNat < ((e : Int) + 1).toNat
        omega
      · skip
        have lt36 : (e : Int) ≤ 36 := by omega
        have lt12 : ¬ ((e : Int) ≤ 12) := by omega
        have lt3 : ¬ ((e : Int) ≤ 3) := by omega
        have HK : Hid (kdr e = 48) := Lib.hid (by unfold kdr; repeat (first | rw [if_pos (by omega)] | rw [if_neg (by omega)]))
        clear hc
        go_wp2_with (first | (go_at_call 13; (with_reducible refine CP.out.mono ?_); rintro ee w4 ⟨rfl, h4⟩; have CK := Lib.hid (show Calls Try.prog 21 #[.pointer (some ⟨a2, 0, none⟩)] w4 fun e w' => e = .returned (.int .i64 48) ∧ w' = w4 by have := NI.kind_any h4.nd; rw [HK.out] at this; exact this); replace h4 := Lib.hid h4) | (go_at_call 21; (with_reducible refine CK.out.mono ?_); rintro ee w5 ⟨rfl, hw⟩; replace hw := hw.symm; subst hw))
        refine ⟨⟨e, by have := HI.out; omega, by
          have h1 := HI.out
          have hd := dec_rl (e := e) (by omega)
          have hw : wrap64 ((e : Int) - 1) = (e : Int) - 1 := by simp only [wrap64]; omega
          first | exact hd | (rw [hw] at hd; exact hd), h4⟩, ?_⟩
        have h1 := HI.out
        have hw : wrap64 ((e : Int) - 1) = (e : Int) - 1 := by simp only [wrap64]; omega
        try rw [hw]
        show ((e : Int) - 1 + 1).toNat < ((e : Int) + 1).toNat
        omega
      · skip
        have lt36 : ¬ ((e : Int) ≤ 36) := by omega
        have lt12 : ¬ ((e : Int) ≤ 12) := by omega
        have lt3 : ¬ ((e : Int) ≤ 3) := by omega
        have HK : Hid (kdr e = 256) := Lib.hid (by unfold kdr; repeat (first | rw [if_pos (by omega)] | rw [if_neg (by omega)]))
        clear hc
        go_wp2_with (first | (go_at_call 13; (with_reducible refine CP.out.mono ?_); rintro ee w4 ⟨rfl, h4⟩; have CK := Lib.hid (show Calls Try.prog 21 #[.pointer (some ⟨a2, 0, none⟩)] w4 fun e w' => e = .returned (.int .i64 256) ∧ w' = w4 by have := NI.kind_any h4.nd; rw [HK.out] at this; exact this); replace h4 := Lib.hid h4) | (go_at_call 21; (with_reducible refine CK.out.mono ?_); rintro ee w5 ⟨rfl, hw⟩; replace hw := hw.symm; subst hw))
        refine ⟨⟨e, by have := HI.out; omega, by
          have h1 := HI.out
          have hd := dec_rl (e := e) (by omega)
          have hw : wrap64 ((e : Int) - 1) = (e : Int) - 1 := by simp only [wrap64]; omega
          first | exact hd | (rw [hw] at hd; exact hd), h4⟩, ?_⟩
        have h1 := HI.out
        have hw : wrap64 ((e : Int) - 1) = (e : Int) - 1 := by simp only [wrap64]; omega
        try rw [hw]
        show ((e : Int) - 1 + 1).toNat < ((e : Int) + 1).toNat
        omega
end Go.Proofs.Ytijlcehjlacihaa
