/-
  ArtnodePlays, walked.
-/
import Derived.Test.YtijlcehjlacihaaPl
import Derived.Test.YtijlcehjlacihaaAc
import Derived.Test.YtijlcehjlacihaaWk
namespace Go.Proofs.Ytijlcehjlacihaa
open Go.RowKit Go.Lib
set_option linter.unusedVariables false
set_option maxRecDepth 20000
set_option linter.unusedSimpArgs false

open Go.Shelf Go.Deep
set_option maxRecDepth 100000 in
set_option maxHeartbeats 16000000 in
theorem plays_any (len cap : Nat) (A0 : Option Addr) (w : World) (hacts : Acts w A0 len) :
    Calls Try.prog 3 #[.slice A0 len cap] w fun e w' => e = .returned (.bool true) ∧ Below w.heap.size w w' := by
  have CW := Lib.hid fun W => wakes_any W
  have CN := Lib.hid fun W => NI.new_e W
  have CR := Lib.hid fun W => rnew_any W
  have HA := Lib.hid hacts
  clear hacts
  by_cases hbig : 100 < len
  · have hb1 : (100 : Int) < (len : Int) := by omega
    clear HA
    go_enter Try.func3, Try.ntmps3
    go_wp2_with (go_at_call 8; (with_reducible refine (CW.out _).mono ?_); rintro e w1 ⟨rfl, ht⟩; replace ht := Lib.hid ht)
    go_ret
    exact ⟨rfl, ht.out.below (Nat.le_refl _) (fun _ _ h => h)⟩
  have hb1 : ¬ ((100 : Int) < (len : Int)) := by omega
  have HL : Hid (len ≤ 100) := Lib.hid (by omega)
  clear hbig
  go_enter Try.func3, Try.ntmps3
  go_upto_region 5 with (first
      | (go_at_call 9; (with_reducible refine (CN.out w).mono ?_); rintro e w1 ⟨a, g, rfl, hn, h1, h2, h3, h4, ht⟩; have H1 := Lib.hid (And.intro hn (And.intro h1 (And.intro h2 (And.intro h3 (And.intro h4 ht))))); clear hn h1 h2 h3 h4 ht)
      | (go_at_call 10; (with_reducible refine (CR.out w1).mono ?_); rintro e w2 ⟨rb, rfl, hr, h1, h2, ht⟩; have H2 := Lib.hid (And.intro hr (And.intro h1 (And.intro h2 ht))); clear hr h1 h2 ht))
  obtain ⟨Z, hZ⟩ : ∃ Z : Dom, Z = ⟨w2.heap.size, fun x => x = a ∨ x = g⟩ := ⟨_, rfl⟩
  have HS0 : Hid (Sm w w2 Z a rb 4 4 [] []) := Lib.hid (by
    have q1 := H1.out
    have q2 := H2.out
    have e1 := q1.2.1
    have e2 := q1.2.2.1
    have e3 := q1.2.2.2.1
    have e4 := q1.2.2.2.2.1
    have e5 := q1.2.2.2.2.2.size
    have e6 := q2.2.1
    have e7 := q2.2.2.1
    have e8 := q2.2.2.2.size
    refine ⟨by rw [hZ]; exact (q1.1 _).no q2.2.2.2, q2.1, by rw [hZ]; exact Nat.le_refl _, ?_, ?_, by omega, q1.2.2.2.2.2.trans q2.2.2.2⟩
    · rw [hZ]
      rintro (h | h)
      · have h : w2.heap.size ≤ rb := h
        omega
      · have h : rb = a ∨ rb = g := h
        omega
    · rw [hZ]
      rintro i (h | h)
      · have h : w2.heap.size ≤ i := h
        omega
      · have h : i = a ∨ i = g := h
        omega)
  clear hZ CN CR H1 H2
  go_wp2_with fail
  go_loopw [5] (fun s wr => ∃ (i k : Nat) (L : List (Nat × Int)), i ≤ len ∧ s = .int .i64 (i : Int) ∧ Hid (Sm w wr Z a rb k k L L)) (fun s _ => len - (RowKit.intOf s).toNat)
  case atStart => exact ⟨0, 4, [], Nat.zero_le _, rfl, HS0⟩
  case round =>
    clear HS0
    obtain ⟨i, k, L, hi, rfl, HS⟩ := hrel
    by_cases hlt : i < len
    · obtain ⟨lb, lo, rfl, hlb, d, b, m, x, n, hd, hb, hm, hr0⟩ := HA.out i hlt
      have hr1 : wr.rangeAt lb (lo + i * 5) [.int .u8 (d : Int), .int .u8 (b : Int), .int .u8 (m : Int), .int .i64 x, .int .i64 n] := fun j v hv => NI.cell_no HS.out.tn (hr0 j v hv)
      have HI := Lib.hid (And.intro hlt (And.intro hd (And.intro hb hm)))
      have hi1 : (0 : Int) ≤ (i : Int) := by omega
      have hi2 : (i : Int) < (len : Int) := by omega
      clear hr0 hi hd hb hm hlb
      go_upto_region 9 with (refine wpList_load_mid rfl 29 _ rfl lb (lo + i * 5) rfl [.int .u8 (d : Int), .int .u8 (b : Int), .int .u8 (m : Int), .int .i64 x, .int .i64 n] _ hr1 Try.underlying29 rfl inf29 ?_)
      obtain ⟨C, hC⟩ : ∃ C : Array Value, C = #[.int .u8 (d : Int), .int .u8 (b : Int), .int .u8 (m : Int), .int .i64 x, .int .i64 n] := ⟨_, rfl⟩
      have HC : Hid (∀ W, At W wr.heap.size (.cells C 29 (0, 0)) → W.cell? ⟨wr.heap.size, 0, none⟩ = some (.int .u8 (d : Int)) ∧ W.cell? ⟨wr.heap.size, 1, none⟩ = some (.int .u8 (b : Int)) ∧ W.cell? ⟨wr.heap.size, 2, none⟩ = some (.int .u8 (m : Int)) ∧ W.cell? ⟨wr.heap.size, 3, none⟩ = some (.int .i64 x) ∧ W.cell? ⟨wr.heap.size, 4, none⟩ = some (.int .i64 n)) := Lib.hid fun W h => by
        subst hC
        exact ⟨by simpa using h.cell 0, by simpa using h.cell 1, by simpa using h.cell 2, by simpa using h.cell 3, by simpa using h.cell 4⟩
      have HS1 := Lib.hid (HS.out.no ((Turn.refl No wr).alloc (.cells C 29)))
      have HB1 : Hid (At (wr.alloc (.cells C 29)) wr.heap.size (.cells C 29 (0, 0))) := Lib.hid (At.new _ _)
      rw [← hC]
      clear hC hr1
      generalize wr.alloc (.cells C 29) = w3 at HS1 HB1 ⊢
      generalize wr.heap.size = B at HC HB1 ⊢
      go_wp2_with fail
      go_loopw [7] (fun s wr => ∃ (j k : Nat) (L : List (Nat × Int)), j ≤ 256 ∧ s = .int .i64 (j : Int) ∧ Hid (Sm w wr Z a rb k k L L) ∧ Hid (At wr B (.cells C 29 (0, 0)))) (fun s _ => 257 - (RowKit.intOf s).toNat)
      case atStart => exact ⟨0, k, L, by decide, rfl, HS1, HB1⟩
      case round =>
        clear HS1 HB1 HS
        obtain ⟨j, k, L, hj, rfl, HS, HB⟩ := hrel
        obtain ⟨q0, q1, q2, q3, q4⟩ := HC.out _ HB.out
        have hwm : IntKind.i64.wrap (m : Int) = (m : Int) := IntWalk.i64_in _ (by have := HI.out.2.2.2; omega)
        by_cases hgo : j ≤ m ∧ d < 2
        · have g1 : (j : Int) ≤ (m : Int) := by omega
          have g2 : (d : Int) < 2 := by omega
          have HJ : Hid (j + 1 ≤ 256) := Lib.hid (by have := HI.out.2.2.2; omega)
          have HJw : Hid (Value.int .i64 (wrap64 ((j : Int) + 1)) = Value.int .i64 ((j + 1 : Nat) : Int)) := Lib.hid (by have h1 := HJ.out; rw [show wrap64 ((j : Int) + 1) = ((j + 1 : Nat) : Int) by simp only [wrap64]; omega])
          have HJm : Hid (257 - (RowKit.intOf (.int .i64 ((j + 1 : Nat) : Int))).toNat < 257 - (RowKit.intOf (.int .i64 (j : Int))).toNat) := Lib.hid (by have h1 := HJ.out; simp [RowKit.intOf]; omega)
          have hwb : IntKind.i64.wrap (b : Int) = (b : Int) := IntWalk.i64_in _ (by have := HI.out.2.2.1; omega)
          have hwj : IntKind.i64.wrap ((b : Int) + (j : Int)) = (b : Int) + (j : Int) := IntWalk.i64_in _ (by have := HI.out.2.2.1; omega)
          obtain ⟨bb, hbb⟩ : ∃ q, (b + j) % 256 = q := ⟨_, rfl⟩
          have hwu : IntKind.u8.wrap ((b : Int) + (j : Int)) = (bb : Int) := by rw [IntKind.wrap_u8]; omega
          have hb256 : bb < 256 := by omega
          have HBB := Lib.hid hb256
          clear hgo hj hbb hb256
          by_cases hd0 : d = 0
          · have g3 : (d : Int) = 0 := by omega
            obtain ⟨s0, hs0⟩ : ∃ q, (getC L bb).isNone = q := ⟨_, rfl⟩
            have CS := Lib.hid fun W (T : Turn No wr W) x' => (HS.out.no T).both_set (HB.out.no T) bb HBB.out x' hs0
            clear hd0 hs0
            go_wp2_with (first
              | (go_at_call 11; (with_reducible refine (CS.out _ (by first | exact (Turn.refl No _).drewN _ | exact (Turn.refl No _).drew | exact Turn.refl No _) _).mono ?_); rintro e w5 ⟨rfl, hb5, hc5⟩; obtain ⟨p0, p1, p2, p3, p4⟩ := HC.out _ hb5; have CR5 := Lib.hid hc5; clear hb5 hc5)
              | (go_at_call 12; (with_reducible refine (CR5.out _ (by first | exact (Turn.refl No _).drewN _ | exact (Turn.refl No _).drew | exact Turn.refl No _)).mono ?_); rintro e w6 ⟨rfl, hb6, k', L', hs6⟩; have H6 := Lib.hid (And.intro hb6 hs6); clear hb6 hs6))
            rw [HJw.out]
            exact ⟨⟨j + 1, k', L', HJ.out, rfl, Lib.hid H6.out.2, Lib.hid H6.out.1⟩, HJm.out⟩
          · have g3 : ¬ (d : Int) = 0 := by omega
            obtain ⟨s0, hs0⟩ : ∃ q, (getC L bb).isSome = q := ⟨_, rfl⟩
            have CS := Lib.hid fun W (T : Turn No wr W) => (HS.out.no T).both_drop (HB.out.no T) bb HBB.out hs0
            clear hd0 hs0
            go_wp2_with (first
              | (go_at_call 13; (with_reducible refine (CS.out _ (by first | exact (Turn.refl No _).drewN _ | exact (Turn.refl No _).drew | exact Turn.refl No _)).mono ?_); rintro e w5 ⟨rfl, hb5, hc5⟩; obtain ⟨p0, p1, p2, p3, p4⟩ := HC.out _ hb5; have CR5 := Lib.hid hc5; clear hb5 hc5)
              | (go_at_call 14; (with_reducible refine (CR5.out _ (by first | exact (Turn.refl No _).drewN _ | exact (Turn.refl No _).drew | exact Turn.refl No _)).mono ?_); rintro e w6 ⟨rfl, hb6, k', L', hs6⟩; have H6 := Lib.hid (And.intro hb6 hs6); clear hb6 hs6))
            rw [HJw.out]
            exact ⟨⟨j + 1, k', L', HJ.out, rfl, Lib.hid H6.out.2, Lib.hid H6.out.1⟩, HJm.out⟩
        · have hor : (¬ (j : Int) ≤ (m : Int)) ∨ ((j : Int) ≤ (m : Int) ∧ ¬ (d : Int) < 2) := by omega
          clear hgo hj
          obtain ⟨u, v, z, ht, hf⟩ := NI.Thr.tuple (o := nxtC L n.toNat)
          have KF := Lib.hid fun W (T : Turn No wr W) => (HS.out.no T).from_ n hf
          have KR := Lib.hid fun W (T : Turn No wr W) => (HS.out.no T).rfrom n hf
          have KA := Lib.hid fun W (T : Turn No wr W) => (HS.out.no T).alike
          clear hf
          by_cases hd2 : d = 2
          · have g5 : (d : Int) = 2 := by omega
            have hor : (¬ (j : Int) ≤ (m : Int)) ∨ ((j : Int) ≤ (m : Int) ∧ ¬ (d : Int) < 2) := hor
            clear hd2
            rcases ht with ⟨_, rfl, rfl, rfl⟩ | ⟨p, _, rfl, rfl, rfl⟩
            all_goals rcases hor with h | ⟨h, h2⟩
            all_goals go_wp2_with (first
              | (go_at_call 15; (with_reducible refine (KF.out _ (by first | exact (Turn.refl No _).drewN _ | exact (Turn.refl No _).drew | exact Turn.refl No _)).mono ?_); rintro e w5 ⟨rfl, h5⟩; have h5 : Turn No wr w5 := Turn.trans (by first | exact (Turn.refl No _).drewN _ | exact (Turn.refl No _).drew | exact Turn.refl No _) h5; obtain ⟨p0, p1, p2, p3, p4⟩ := HC.out _ (HB.out.no h5); replace h5 := Lib.hid h5)
              | (go_at_call 16; (with_reducible refine (KR.out _ (h5.out.trans (by first | exact (Turn.refl No _).drewN _ | exact (Turn.refl No _).drew | exact Turn.refl No _))).mono ?_); rintro e w6 ⟨rfl, h6⟩; have h6 : Turn No wr w6 := h5.out.trans (Turn.trans (by first | exact (Turn.refl No _).drewN _ | exact (Turn.refl No _).drew | exact Turn.refl No _) h6); replace h6 := Lib.hid h6)
              | (go_at_call 17; (with_reducible refine (KA.out _ h6.out).mono ?_); rintro e w7 ⟨rfl, h7⟩; replace h7 := Lib.hid (h6.out.trans h7)))
            all_goals exact ⟨⟨i + 1, k, L, by have := HI.out; omega, by have h1 := HI.out; have h2 := HL.out; go_num, Lib.hid (HS.out.no h7.out)⟩, by have h1 := HI.out; have h2 := HL.out; simp [RowKit.intOf]; omega⟩
          · have g5 : ¬ (d : Int) = 2 := by omega
            clear hd2 ht KF KR
            rcases hor with h | ⟨h, h2⟩
            all_goals go_wp2_with (go_at_call 17; (with_reducible refine (KA.out _ (Turn.refl No _)).mono ?_); rintro e w7 ⟨rfl, h7⟩; replace h7 := Lib.hid h7)
            all_goals exact ⟨⟨i + 1, k, L, by have := HI.out; omega, by have h1 := HI.out; have h2 := HL.out; go_num, Lib.hid (HS.out.no h7.out)⟩, by have h1 := HI.out; have h2 := HL.out; simp [RowKit.intOf]; omega⟩
    · have hnl : ¬ ((i : Int) < (len : Int)) := by omega
      go_wp2_with (go_at_call 8; (with_reducible refine (CW.out _).mono ?_); rintro e w5 ⟨rfl, ht⟩; replace ht := Lib.hid ht)
      go_ret
      exact ⟨rfl, (HS.out.tn.trans ht.out).below (Nat.le_refl _) (fun _ _ h => h)⟩
end Go.Proofs.Ytijlcehjlacihaa
