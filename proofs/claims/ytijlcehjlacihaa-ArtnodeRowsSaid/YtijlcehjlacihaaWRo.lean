/-
  ArtnodeRows, walked.
-/
import Derived.Test.YtijlcehjlacihaaRo
import Derived.Deep.LoopGhost
namespace Go.Proofs.Ytijlcehjlacihaa
open Go.RowKit Go.Lib
set_option linter.unusedVariables false
set_option maxRecDepth 20000
set_option linter.unusedSimpArgs false


theorem dec_rel {e : Nat} (h : e ≤ 400) : (e = 0 ∧ Value.int .i64 (wrap64 ((e : Int) - 1)) = Value.int .i64 (-1)) ∨ ∃ e1 : Nat, e = e1 + 1 ∧ Value.int .i64 (wrap64 ((e : Int) - 1)) = Value.int .i64 (e1 : Int) := by
  have hw : wrap64 ((e : Int) - 1) = (e : Int) - 1 := by simp only [wrap64]; omega
  rw [hw]
  by_cases he : e = 0
  · subst he; exact .inl ⟨rfl, rfl⟩
  · refine .inr ⟨e - 1, by omega, ?_⟩
    rw [show (e : Int) - 1 = ((e - 1 : Nat) : Int) by omega]
set_option maxHeartbeats 8000000 in
theorem rows_any (len cap : Nat) (A0 : Option Addr) (zs : List Int) (at0 : Int) (w : World) (hr : IsRow .u8 w A0 len cap zs) (hat0 : (Lit.int .i64 at0).wf = true) :
    Calls Try.prog 7 #[.slice A0 len cap, .int .i64 at0] w fun e w' => e = .returned (.bool true) ∧ Below w.heap.size w w' := by
  have CW := Lib.hid fun W => wakes_any W
  have CN := Lib.hid fun W => NI.new_e W
  have HB := Lib.hid (row_bytes hr)
  have hlen := row_len hr
  clear hr
  by_cases hbig : 400 < len
  · have hb1 : (400 : Int) < (len : Int) := by omega
    clear HB hlen
    go_enter Try.func7, Try.ntmps7
    go_wp2_with (go_at_call 8; (with_reducible refine (CW.out _).mono ?_); rintro e w1 ⟨rfl, ht⟩; replace ht := Lib.hid ht)
    go_ret
    exact ⟨rfl, ht.out.below (Nat.le_refl _) (fun _ _ h => h)⟩
  have hb1 : ¬ ((400 : Int) < (len : Int)) := by omega
  by_cases h0 : len = 0
  · subst h0
    clear HB hlen hbig
    go_enter Try.func7, Try.ntmps7
    go_wp2_with (go_at_call 8; (with_reducible refine (CW.out _).mono ?_); rintro e w1 ⟨rfl, ht⟩; replace ht := Lib.hid ht)
    go_ret
    exact ⟨rfl, ht.out.below (Nat.le_refl _) (fun _ _ h => h)⟩
  have hb2 : ¬ ((len : Int) = 0) := by omega
  have hl400 : len ≤ 400 := by omega
  have HL := Lib.hid (And.intro hl400 (Nat.pos_of_ne_zero h0))
  clear hbig h0
  obtain ⟨by_, hby⟩ : ∃ f : Nat → Nat, (fun j => (zs.getD j 0).toNat) = f := ⟨_, rfl⟩
  have HBY : Hid (∀ j, j < len → ∃ lb lo, A0 = some ⟨lb, lo, none⟩ ∧ by_ j < 256 ∧ w.cell? ⟨lb, lo + j, none⟩ = some (.int .u8 (by_ j : Nat))) := Lib.hid fun j hj => by
    obtain ⟨lb, lo, h1, _, h3, h4⟩ := HB.out j hj
    rw [← hby]
    exact ⟨lb, lo, h1, h3, h4⟩
  clear HB hby
  obtain ⟨lb, lo, hA, _, _⟩ := HBY.out 0 HL.out.2
  have HC : Hid (∀ j, j < len → by_ j < 256 ∧ w.cell? ⟨lb, lo + j, none⟩ = some (.int .u8 (by_ j : Nat))) := Lib.hid fun j hj => by
    obtain ⟨lb', lo', h1, h2, h3⟩ := HBY.out j hj
    rw [hA] at h1
    injection h1 with h1
    injection h1 with e1 e2
    subst e1 e2
    exact ⟨h2, h3⟩
  subst hA
  clear HBY
  go_enter Try.func7, Try.ntmps7
  go_upto_region 4 with fail
  have hfit := tmod_fitN at0 (n := (len : Int)) (by omega)
  generalize at0.tmod (len : Int) = t at hfit ⊢
  go_upto_if 31 with fail
  go_cut [5] from 17 to 35 (fun s wx => ∃ kk : Nat, kk < len ∧ s = .int .i64 (kk : Int) ∧ wx = w)
  case first =>
    by_cases ht0 : t < 0
    · have hlt : decide (t < 0) = true := decide_eq_true ht0
      go_wp2_with fail
      go_meet
      exact ⟨(t + (len : Int)).toNat, by omega, by go_num, rfl⟩
    · have hlt : decide (t < 0) = false := decide_eq_false ht0
      go_wp2_with fail
      go_meet
      exact ⟨t.toNat, by omega, by go_num, rfl⟩
  case rest =>
    obtain ⟨kk, hkk, rfl, hwc⟩ := hcut
    replace hwc := hwc.symm
    subst hwc
    clear hfit hlen
    have HK := Lib.hid hkk
    clear hkk
    go_upto_region 8 with (first
      | (go_at_call 9; (with_reducible refine (CN.out w).mono ?_); rintro e w1 ⟨a, g, rfl, hn, h1, h2, h3, h4, ht⟩; have H1 := Lib.hid (And.intro hn (And.intro h1 (And.intro h2 (And.intro h3 (And.intro h4 ht))))); clear hn h1 h2 h3 h4 ht)
      | (go_at_call 9; (with_reducible refine (CN.out w1).mono ?_); rintro e w2 ⟨a2, g2, rfl, hn, h1, h2, h3, h4, ht⟩; have H2 := Lib.hid (And.intro hn (And.intro h1 (And.intro h2 (And.intro h3 (And.intro h4 ht))))); clear hn h1 h2 h3 h4 ht))
    obtain ⟨Z1, hZ1⟩ : ∃ Z : Dom, Z = ⟨w2.heap.size, fun x => x = a ∨ x = g⟩ := ⟨_, rfl⟩
    have HZ1 := Lib.hid hZ1
    have HA0 : Hid (Tri w2 Z1 a [] (fun b => ∃ j, j < 0 ∧ by_ j = b)) := Lib.hid ⟨by rw [hZ1]; exact (H1.out.1 _).no H2.out.2.2.2.2.2, fun b x h => (by cases h), fun b => ⟨fun h => (by cases h), fun ⟨j, h, _⟩ => absurd h (Nat.not_lt_zero _)⟩⟩
    have HW0 : Hid (Turn No w w2) := Lib.hid (H1.out.2.2.2.2.2.trans H2.out.2.2.2.2.2)
    clear hZ1 CN
    -- the first node
    go_upto_region 9 with fail
    go_loopw [8] (fun s wr => ∃ (i : Nat) (L : List (Nat × Int)), i ≤ len ∧ s = .int .i64 (i : Int) ∧ Hid (Tri wr Z1 a L (fun b => ∃ j, j < i ∧ by_ j = b)) ∧ Hid (NI.Nz Z1 w2 wr)) (fun s _ => len - (RowKit.intOf s).toNat)
    case atStart => exact ⟨0, [], Nat.zero_le _, rfl, HA0, Lib.hid (NI.Nz.refl _ _)⟩
    case round =>
      clear HA0
      obtain ⟨i, L, hi, rfl, HP, HT⟩ := hrel
      by_cases hlt : i < len
      · obtain ⟨b256, c0⟩ := HC.out i hlt
        have HTW : Hid (Turn No w wr) := Lib.hid (no_of HW0.out HT.out fun k hk => by
          rcases hk.1 with h | h
          · rw [HZ1.out] at h; exact Nat.le_trans HW0.out.size h
          · rw [HZ1.out] at h
            have q := H1.out
            rcases h with rfl | rfl
            · exact q.2.1
            · exact q.2.2.1)
        replace c0 := NI.cell_no HTW.out c0
        obtain ⟨b, hb⟩ : ∃ b, by_ i = b := ⟨_, rfl⟩
        have HBI := Lib.hid hb
        rw [hb] at b256 c0
        have HEQ : Hid (∀ c, (c = b ∨ ∃ j, j < i ∧ by_ j = c) ↔ ∃ j, j < i + 1 ∧ by_ j = c) := Lib.hid fun c => ⟨fun h => by
            rcases h with h | ⟨j, h1, h2⟩
            · exact ⟨i, by omega, by rw [hb, h]⟩
            · exact ⟨j, by omega, h2⟩, fun ⟨j, h1, h2⟩ => by
            by_cases hji : j = i
            · subst hji; exact .inl (by rw [← h2, hb])
            · exact .inr ⟨j, by omega, h2⟩⟩
        clear hb
        have hwb : IntKind.i64.wrap (b : Int) = (b : Int) := by rw [IntKind.wrap_i64]; omega
        have hwm : IntKind.i64.wrap ((b : Int) * 3) = (b : Int) * 3 := by rw [IntKind.wrap_i64]; omega
        have hi1 : (0 : Int) ≤ (i : Int) := by omega
        have hi2 : (i : Int) < (len : Int) := by omega
        have CP := Lib.hid fun W (T : Turn No wr W) => (HP.out.no T).put (Nat.le_trans (show Z1.n ≤ w2.heap.size by rw [HZ1.out]; exact Nat.le_refl _) (Nat.le_trans HT.out.size T.size)) b b256
        have HI := Lib.hid hlt
        go_wp2_with fail
        go_region_with (go_at_call 11; (with_reducible refine (CP.out _ (by first | exact (Turn.refl No _).drewN _ | exact (Turn.refl No _).drew | exact Turn.refl No _)).mono ?_); rintro e w3 ⟨rfl, hn, hz⟩; have HN := Lib.hid (And.intro hn hz); clear hn hz)
        all_goals go_wp2_with fail
        all_goals exact ⟨⟨i + 1, _, by have := HI.out; omega, by go_num, Lib.hid (HN.out.1.of HEQ.out), Lib.hid (HT.out.trans ((NI.Nz.no (by first | exact (Turn.refl No _).drewN _ | exact (Turn.refl No _).drew | exact Turn.refl No _)).trans HN.out.2))⟩, by have := HI.out; simp [RowKit.intOf]; omega⟩
      · obtain rfl : i = len := by omega
        clear hi hlt
        have HTW : Hid (Turn No w wr) := Lib.hid (no_of HW0.out HT.out fun k hk => by
          rcases hk.1 with h | h
          · rw [HZ1.out] at h; exact Nat.le_trans HW0.out.size h
          · rw [HZ1.out] at h
            have q := H1.out
            rcases h with rfl | rfl
            · exact q.2.1
            · exact q.2.2.1)
        obtain ⟨Z2, hZ2⟩ : ∃ Z : Dom, Z = ⟨wr.heap.size, fun x => x = a2 ∨ x = g2⟩ := ⟨_, rfl⟩
        have HZ2 := Lib.hid hZ2
        have HM0 : Hid (Tri wr Z2 a2 [] (fun b => ∃ j, i ≤ j ∧ j < i ∧ by_ ((j + kk) % i) = b)) := Lib.hid ⟨by
          rw [hZ2]
          refine Nd_keep (H2.out.1 _) HT.out fun x hx hok hm => ?_
          have q1 := H1.out
          have q2 := H2.out
          have hx2 : x = a2 ∨ x = g2 := by
            rcases hok with h | h
            · exact absurd (Nat.le_trans HT.out.size h) (Nat.not_le.2 hx)
            · exact h
          rcases hm.1 with h | h
          · rw [HZ1.out] at h; exact absurd h (Nat.not_le.2 hx)
          · rw [HZ1.out] at h
            have h : x = a ∨ x = g := h
            have e1 := q2.2.1
            have e2 := q2.2.2.1
            have e3 := q1.2.2.2.1
            have e4 := q1.2.2.2.2.1
            omega, fun b x h => (by cases h), fun b => ⟨fun h => (by cases h), fun ⟨j, h1, h2, _⟩ => by omega⟩⟩
        clear hZ2
        obtain ⟨w3, hw3⟩ : ∃ x, x = wr := ⟨_, rfl⟩
        subst hw3
        have hi0 : 0 < i := HL.out.2
        have hile : i ≤ 400 := HL.out.1
        have hiw : IntKind.i64.wrap ((i : Int) - 1) = ((i - 1 : Nat) : Int) := by rw [IntKind.wrap_i64]; omega
        go_wp2_with fail
        go_loopw [9] (fun s wr => ∃ (d : Nat) (L2 : List (Nat × Int)), d ≤ i ∧ ((d = 0 ∧ s = .int .i64 (-1)) ∨ ∃ e : Nat, d = e + 1 ∧ s = .int .i64 (e : Int)) ∧ Hid (Tri wr Z2 a2 L2 (fun b => ∃ j, d ≤ j ∧ j < i ∧ by_ ((j + kk) % i) = b)) ∧ Hid (NI.Nz Z2 w3 wr)) (fun s _ => (RowKit.intOf s + 1).toNat)
        case atStart => exact ⟨i, [], Nat.le_refl _, .inr ⟨i - 1, by omega, rfl⟩, HM0, Lib.hid (NI.Nz.refl _ _)⟩
        case round =>
          clear HM0 hiw
          obtain ⟨d, L2, hd, hs, HP2, HT2⟩ := hrel
          rcases hs with ⟨rfl, rfl⟩ | ⟨e, rfl, rfl⟩
          · clear hd
            have HA4 : Hid (Tri wr Z1 a L (fun b => ∃ j, j < i ∧ by_ j = b)) := Lib.hid (HP.out.keep HT2.out fun x hx hok hm => by
              have q1 := H1.out
              have q2 := H2.out
              have e1 := q2.2.1
              have e2 := q2.2.2.1
              have e3 := q1.2.2.2.1
              have e4 := q1.2.2.2.2.1
              have e5 := q2.2.2.2.1
              have e6 := q2.2.2.2.2.1
              have hm1 := hm.1
              rw [HZ2.out] at hm1
              rw [HZ1.out] at hok
              have hm2 : x = a2 ∨ x = g2 := hm1.resolve_left (fun h : w3.heap.size ≤ x => absurd h (Nat.not_le.2 hx))
              rcases hok with h | h
              · have h : w2.heap.size ≤ x := h
                omega
              · have h : x = a ∨ x = g := h
                omega)
            have hLL : L = L2 := HA4.out.same HP2.out fun b => ⟨fun ⟨j, h1, h2⟩ => by
              by_cases hjk : kk ≤ j
              · exact ⟨j - kk, Nat.zero_le _, by omega, by rw [Nat.sub_add_cancel hjk, Nat.mod_eq_of_lt h1]; exact h2⟩
              · exact ⟨j + i - kk, Nat.zero_le _, by omega, by rw [show j + i - kk + kk = j + i by have := HK.out; omega, Nat.add_mod_right, Nat.mod_eq_of_lt h1]; exact h2⟩, fun ⟨j, _, h1, h2⟩ => ⟨(j + kk) % i, Nat.mod_lt _ hi0, h2⟩⟩
            subst hLL
            have HTW2 : Hid (Turn No w wr) := Lib.hid (no_of HTW.out HT2.out fun k hk => by
              rcases hk.1 with h | h
              · rw [HZ2.out] at h; exact Nat.le_trans HTW.out.size h
              · rw [HZ2.out] at h
                have q := H2.out
                have q1 := H1.out.2.2.2.2.2.size
                rcases h with rfl | rfl
                · exact Nat.le_trans q1 q.2.1
                · exact Nat.le_trans q1 q.2.2.1)
            have KL1 := Lib.hid (NI.len_any HA4.out.nd)
            have KL2 := Lib.hid (NI.len_any HP2.out.nd)
            have KK1 := Lib.hid (NI.kind_any HA4.out.nd)
            have KK2 := Lib.hid (NI.kind_any HP2.out.nd)
            obtain ⟨kf, hkf⟩ : ∃ x, kfit L.length = x := ⟨_, rfl⟩
            rw [hkf] at KK1 KK2
            clear hkf
            obtain ⟨nl, hnl⟩ : ∃ x, L.length = x := ⟨_, rfl⟩
            rw [hnl] at KL1 KL2
            clear hnl
            have KF1 : Hid (∀ W, Turn No wr W → ∀ (bi : Int) (x y z : Value), NI.fromV (nxtC L bi.toNat) = .tuple #[x, y, z] → Calls Try.prog 15 #[.pointer (some ⟨a, 0, none⟩), .int .i64 bi] W fun e w' => e = .returned (.tuple #[x, y, z]) ∧ Turn No W w') := Lib.hid fun W T bi x y z hf => (NI.from_any (HA4.out.nd.no T) bi).mono fun e w' q => ⟨by rw [q.1, hf], q.2⟩
            have KF2 : Hid (∀ W, Turn No wr W → ∀ (bi : Int) (x y z : Value), NI.fromV (nxtC L bi.toNat) = .tuple #[x, y, z] → Calls Try.prog 15 #[.pointer (some ⟨a2, 0, none⟩), .int .i64 bi] W fun e w' => e = .returned (.tuple #[x, y, z]) ∧ Turn No W w') := Lib.hid fun W T bi x y z hf => (NI.from_any (HP2.out.nd.no T) bi).mono fun e w' q => ⟨by rw [q.1, hf], q.2⟩
            clear HA4 HP2 HP HC HT HTW HZ1 HZ2 H1 H2 HW0 HK HL HT2
            obtain ⟨w4, hw4⟩ : ∃ x, x = wr := ⟨_, rfl⟩
            subst hw4
            go_wp2_with (first | (go_at_call 20; (with_reducible refine KL1.out.mono ?_); rintro e w5 ⟨rfl, hw⟩; replace hw := hw.symm; subst hw) | (go_at_call 20; (with_reducible refine KL2.out.mono ?_); rintro e w5 ⟨rfl, hw⟩; replace hw := hw.symm; subst hw) | (go_at_call 21; (with_reducible refine KK1.out.mono ?_); rintro e w5 ⟨rfl, hw⟩; replace hw := hw.symm; subst hw) | (go_at_call 21; (with_reducible refine KK2.out.mono ?_); rintro e w5 ⟨rfl, hw⟩; replace hw := hw.symm; subst hw))
            go_loopw [10] (fun s wr => ∃ bi : Int, -1 ≤ bi ∧ bi ≤ 257 ∧ s = .int .i64 bi ∧ Hid (Turn No w4 wr)) (fun s _ => (300 - RowKit.intOf s).toNat)
            case atStart => exact ⟨-1, by decide, by decide, rfl, Lib.hid (Turn.refl _ _)⟩
            case round =>
              obtain ⟨bi, hb1, hb2, rfl, HT4⟩ := hrel
              by_cases hlt : bi ≤ 256
              · have hwb : IntKind.i64.wrap (bi + 1) = bi + 1 := by rw [IntKind.wrap_i64]; omega
                have HI := Lib.hid (And.intro hb1 hlt)
                obtain ⟨x, y, z, ht, hf⟩ := NI.Thr.tuple (o := nxtC L bi.toNat)
                have C1 := Lib.hid fun W T => KF1.out W T bi x y z hf
                have C2 := Lib.hid fun W T => KF2.out W T bi x y z hf
                clear hf hb1
                rcases ht with ⟨_, rfl, rfl, rfl⟩ | ⟨p, _, rfl, rfl, rfl⟩
                all_goals go_wp2_with (first | (go_at_call 15; (with_reducible refine (C1.out _ HT4.out).mono ?_); rintro e w5 ⟨rfl, h5⟩; replace h5 := Lib.hid (HT4.out.trans h5)) | (go_at_call 15; (with_reducible refine (C2.out _ h5.out).mono ?_); rintro e w6 ⟨rfl, h6⟩; replace h6 := Lib.hid (h5.out.trans h6)))
                all_goals exact ⟨⟨bi + 1, by have := HI.out; omega, by have := HI.out; omega, by go_num, h6⟩, by have h1 := HI.out; show (300 - (bi + 1)).toNat < (300 - bi).toNat; omega⟩
              · have hnl : ¬ (bi ≤ 256) := hlt
                go_wp2_with (go_at_call 8; (with_reducible refine (CW.out _).mono ?_); rintro e w5 ⟨rfl, ht⟩; replace ht := Lib.hid ht)
                go_ret
                exact ⟨rfl, ((HTW2.out.trans HT4.out).trans ht.out).below (Nat.le_refl _) (fun _ _ h => h)⟩
          · have HTW2 : Hid (Turn No w wr) := Lib.hid (no_of HTW.out HT2.out fun k hk => by
              rcases hk.1 with h | h
              · rw [HZ2.out] at h; exact Nat.le_trans HTW.out.size h
              · rw [HZ2.out] at h
                have q := H2.out
                have q1 := H1.out.2.2.2.2.2.size
                rcases h with rfl | rfl
                · exact Nat.le_trans q1 q.2.1
                · exact Nat.le_trans q1 q.2.2.1)
            obtain ⟨q, hq⟩ : ∃ q, (e + kk) % i = q := ⟨_, rfl⟩
            have hqi : q < i := by rw [← hq]; exact Nat.mod_lt _ hi0
            obtain ⟨b256, c0⟩ := HC.out q hqi
            replace c0 := NI.cell_no HTW2.out c0
            obtain ⟨b, hb⟩ : ∃ b, by_ q = b := ⟨_, rfl⟩
            rw [hb] at b256 c0
            have HEQ2 : Hid (∀ c, (c = b ∨ ∃ j, e + 1 ≤ j ∧ j < i ∧ by_ ((j + kk) % i) = c) ↔ ∃ j, e ≤ j ∧ j < i ∧ by_ ((j + kk) % i) = c) := Lib.hid fun c => ⟨fun h => by
                rcases h with h | ⟨j, h1, h2, h3⟩
                · exact ⟨e, Nat.le_refl _, by omega, by rw [hq, hb, h]⟩
                · exact ⟨j, by omega, h2, h3⟩, fun ⟨j, h1, h2, h3⟩ => by
                by_cases hje : j = e
                · subst hje; exact .inl (by rw [← h3, hq, hb])
                · exact .inr ⟨j, by omega, h2, h3⟩⟩
            have HKL := HK.out
            have hwb : IntKind.i64.wrap (b : Int) = (b : Int) := by rw [IntKind.wrap_i64]; omega
            have hwm : IntKind.i64.wrap ((b : Int) * 3) = (b : Int) * 3 := by rw [IntKind.wrap_i64]; omega
            have hwe : IntKind.i64.wrap ((e : Int) + (kk : Int)) = (e : Int) + (kk : Int) := by rw [IntKind.wrap_i64]; omega
            have htm : ((e : Int) + (kk : Int)).tmod (i : Int) = (q : Int) := by
              rw [Int.tmod_eq_emod_of_nonneg (by omega), ← hq]
              simp
            have hi1 : (0 : Int) ≤ (q : Int) := by omega
            have hi2 : (q : Int) < (i : Int) := by omega
            have hi3 : ¬ ((i : Int) = 0) := by omega
            have hi4 : (0 : Int) ≤ (e : Int) := by omega
            have CP := Lib.hid fun W (T : Turn No wr W) => (HP2.out.no T).put (Nat.le_trans (show Z2.n ≤ w3.heap.size by rw [HZ2.out]; exact Nat.le_refl _) (Nat.le_trans HT2.out.size T.size)) b b256
            have HI := Lib.hid hd
            clear hq hb HKL hd
            go_wp2_with fail
            go_region_with (go_at_call 11; (with_reducible refine (CP.out _ (by first | exact (Turn.refl No _).drewN _ | exact (Turn.refl No _).drew | exact Turn.refl No _)).mono ?_); rintro ee w4 ⟨rfl, hn, hz⟩; have HN := Lib.hid (And.intro hn hz); clear hn hz)
            all_goals go_wp2_with fail
            all_goals refine ⟨⟨e, _, by have := HI.out; omega, ?_, Lib.hid (HN.out.1.of HEQ2.out), Lib.hid (HT2.out.trans ((NI.Nz.no (by first | exact (Turn.refl No _).drewN _ | exact (Turn.refl No _).drew | exact Turn.refl No _)).trans HN.out.2))⟩, ?_⟩
            all_goals first
              | exact dec_rel (by have := HI.out; omega)
              | (have h1 := HI.out; have hw : wrap64 ((e : Int) - 1) = (e : Int) - 1 := by (simp only [wrap64]; omega)
                 rw [hw]; show ((e : Int) - 1 + 1).toNat < ((e : Int) + 1).toNat; omega)
end Go.Proofs.Ytijlcehjlacihaa
