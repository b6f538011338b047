/-
  EpochPins, walked.
-/
import Derived.Test.YthohhehelnkpgaaWPins
namespace Go.Proofs.Ythohhehelnkpgaa
open Go.RowKit Go.Maps Go.IntWalk Go.Lib
set_option linter.unusedVariables false

set_option maxRecDepth 100000 in
set_option maxHeartbeats 4000000 in
theorem pins_any (len cap : Nat) (A0 : Option Addr) (zs : List Int) (w : World) (hr : IsRow .u8 w A0 len cap zs) :
    Calls Try.prog 7 #[.slice A0 len cap] w fun e w' => e = .returned (.bool true) ∧ Below w.heap.size w w' := by
  have hlm := row_len hr
  unfold maxLen at hlm
  have AW := Lib.hid (awake_any w)
  have HR := Lib.hid (row_bytes hr)
  clear hr
  by_cases hlen : 300 < len
  · have g : decide ((300 : Int) < (len : Int)) = true := by simp; omega
    go_enter Try.func7, Try.ntmps7
    go_wp2_with fail
    refine AW.out.mono ?_
    rintro e w1 ⟨rfl, ht1⟩
    have H1 := Lib.hid ht1
    clear ht1
    go_wp2_with fail
    go_ret
    exact ⟨rfl, H1.out.below (Nat.le_refl _) (fun _ _ h => h)⟩
  · have g : decide ((300 : Int) < (len : Int)) = false := by simp; omega
    go_enter Try.func7, Try.ntmps7
    go_wp2_with fail
    refine AW.out.mono ?_
    rintro e w1 ⟨rfl, ht1⟩
    have NW := Lib.hid (new_any (Z := w1.heap.size) w1 (Nat.le_refl _))
    have H1 := Lib.hid ht1
    clear ht1 AW
    go_wp2_with fail
    refine NW.out.mono ?_
    rintro e w2 ⟨rfl, he, ht2⟩
    generalize hZ : w1.heap.size = Z at he
    have hs2 : Z ≤ w2.heap.size := by rw [← hZ]; exact ht2.size
    have HS : Hid (PiS w1 (w2.alloc (.cells #[.bool false, .bool false, .bool false, .bool false, .bool false] 48)) Z Z w2.heap.size Ab.start 0) :=
      Lib.hid (PiS.start hs2 (he.same ((Turn.refl _ w2).alloc _)) (At.new w2 _) (Tn.of_same (ht2.alloc _)))
    have HB : Hid (∀ j, j < len → ∃ lb lo, A0 = some ⟨lb, lo, none⟩ ∧ lb < Z ∧ (zs.getD j 0).toNat < 256 ∧ w1.cell? ⟨lb, lo + j, none⟩ = some (.int .u8 ((zs.getD j 0).toNat : Nat))) := Lib.hid fun j hj => by
      obtain ⟨lb, lo, e1, e2, e3, e4⟩ := HR.out j hj
      exact ⟨lb, lo, e1, by rw [← hZ]; exact Nat.lt_of_lt_of_le e2 H1.out.size, e3, (World.cell?_of_block (w := w) (H1.out.block lb e2 (fun h => h))).trans e4⟩
    replace hZ := Lib.hid hZ
    clear he ht2 hs2 NW HR
    go_wp2_with fail
    generalize w2.alloc (.cells #[.bool false, .bool false, .bool false, .bool false, .bool false] 48) = w3 at HS ⊢
    generalize w2.heap.size = ob at HS ⊢
    go_loopw [5] (fun i wr => ∃ (k : Nat) (E : Ab), k ≤ len ∧ i = .int .i64 (k : Int) ∧ Hid (PiS w1 wr Z Z ob E k)) (fun i _ => len - (intOf i).toNat)
    case atStart => exact ⟨0, _, Nat.zero_le _, rfl, HS⟩
    case round =>
      obtain ⟨k, E, hk, rfl, hst⟩ := hrel
      clear HS
      by_cases hlt : k < len
      · have hkl : (k : Int) < (len : Int) := by omega
        obtain ⟨lb, lo, hA, hb, hbv, hcell⟩ := HB.out k hlt
        subst hA
        generalize hbn : (zs.getD k 0).toNat = b at hbv hcell
        have hcw : wr.cell? ⟨lb, lo + k, none⟩ = some (.int .u8 (b : Int)) := (World.cell?_of_block (w := w1) (hst.out.tn.block lb (by have := hZ.out; omega) (fun h => by have := h.1; omega))).trans hcell
        clear hcell hbn
        go_upto_block 2 with (fail)
        rw [show (b : Int) / 4 % 5 = ((b / 4 % 5 : Nat) : Int) by omega, show (b : Int) % 4 = ((b % 4 : Nat) : Int) by omega]
        have hn : b / 4 % 5 < 5 := Nat.mod_lt _ (by omega)
        have hc4 : b % 4 < 4 := Nat.mod_lt _ (by omega)
        generalize b / 4 % 5 = n at hn ⊢
        generalize b % 4 = c at hc4 ⊢
        have n0 : (0 : Int) ≤ (n : Int) := by omega
        have n5 : (n : Int) < 5 := by omega
        have con := hst.out.cell n hn
        have ltob := hst.out.on_.lt
        have zob := hst.out.on_.thawed n
        have few : E.P.length < 100000 := by have := hst.out.few; omega
        have shrt : E.len < 100000 := by have := hst.out.len; omega
        go_cut [2] from 34 to 91 (fun s wx => ∃ (wq : World) (E' : Ab), wq = wx ∧ Hid (PiS w1 wq Z Z ob E' (k + 1)))
        case first =>
          obtain h4 | h4 | h4 | h4 : c = 0 ∨ c = 1 ∨ c = 2 ∨ c = 3 := by omega
          · subst h4
            have CA : Hid (Calls Try.prog 13 #[.pointer (some ⟨Z, 0, none⟩), .func (.func 26) #[] #[]] wr fun e w' => e = .returned (.bool true) ∧ PiS w1 w' Z Z ob (E.retire F26) (k + 1)) :=
              Lib.hid ((retire_any hst.out.ep shrt).mono fun e w' ⟨h, he, ht⟩ => ⟨h, hst.out.retire he ht⟩)
            go_wp2_with fail
            refine CA.out.mono ?_
            rintro e wy ⟨rfl, hy⟩
            replace hy := Lib.hid hy
            clear CA hst con
            go_wp2_with fail
            go_meet
            case rel => exact ⟨_, _, rfl, hy⟩
          · subst h4
            have CA : Hid (∀ W, Turn (fun _ => False) wr W → Calls Try.prog 12 #[.pointer (some ⟨Z, 0, none⟩), .int .i64 (n : Int)] W fun e w' => e = .returned (.bool (!onb E n)) ∧ PiM w1 w' Z Z ob E (E.pin (n : Int)) (k + 1) n ∧ onb (E.pin (n : Int)) n = true) :=
              Lib.hid fun W hW => (pin_any (hst.out.same hW).ep (by omega) (by omega) few).mono fun e w' ⟨h, he, ht⟩ => ⟨h, (hst.out.same hW).pin hn he ht⟩
            cases hb : onb E n with
            | false =>
              rw [hb] at CA con
              have hb2 := Lib.hid hb
              clear hst hb
              go_wp2_with fail
              go_region_with (go_at_call 12; refine (CA.out _ ((Turn.refl _ _).drewN _)).mono ?_; rintro e wy ⟨rfl, hy⟩; have cony := hy.1.on_.cell n; rw [onc_at E n hn, hb2.out] at cony; have zy := hy.1.on_.thawed n; have ly := hy.1.on_.lt; replace hy := Lib.hid hy)
              all_goals
                go_wp2_with fail
                go_meet
                case rel =>
                  have hz := hy.out.1.store hn
                  rw [hy.out.2] at hz
                  exact ⟨_, _, rfl, hz⟩
            | true =>
              rw [hb] at CA con
              have hb2 := Lib.hid hb
              clear hst hb
              go_wp2_with fail
              go_region_with (go_at_call 12; refine (CA.out _ ((Turn.refl _ _).drewN _)).mono ?_; rintro e wy ⟨rfl, hy⟩; have cony := hy.1.on_.cell n; rw [onc_at E n hn, hb2.out] at cony; have zy := hy.1.on_.thawed n; have ly := hy.1.on_.lt; replace hy := Lib.hid hy)
              all_goals
                go_wp2_with fail
                go_meet
                case rel =>
                  have hz := hy.out.1.store hn
                  rw [hy.out.2] at hz
                  exact ⟨_, _, rfl, hz⟩
          · subst h4
            have CA : Hid (∀ W, Turn (fun _ => False) wr W → Calls Try.prog 15 #[.pointer (some ⟨Z, 0, none⟩), .int .i64 (n : Int)] W fun e w' => e = .returned (.bool (onb E n)) ∧ PiM w1 w' Z Z ob E (E.unpin (n : Int)) (k + 1) n ∧ onb (E.unpin (n : Int)) n = false) :=
              Lib.hid fun W hW => (unpin_any (hst.out.same hW).ep (by omega) (by omega)).mono fun e w' ⟨h, he, ht⟩ => ⟨h, (hst.out.same hW).unpin hn he ht⟩
            cases hb : onb E n with
            | false =>
              rw [hb] at CA con
              have hb2 := Lib.hid hb
              clear hst hb
              go_wp2_with fail
              go_region_with (go_at_call 15; refine (CA.out _ ((Turn.refl _ _).drewN _)).mono ?_; rintro e wy ⟨rfl, hy⟩; have cony := hy.1.on_.cell n; rw [onc_at E n hn, hb2.out] at cony; have zy := hy.1.on_.thawed n; have ly := hy.1.on_.lt; replace hy := Lib.hid hy)
              all_goals
                go_wp2_with fail
                go_meet
                case rel =>
                  have hz := hy.out.1.store hn
                  rw [hy.out.2] at hz
                  exact ⟨_, _, rfl, hz⟩
            | true =>
              rw [hb] at CA con
              have hb2 := Lib.hid hb
              clear hst hb
              go_wp2_with fail
              go_region_with (go_at_call 15; refine (CA.out _ ((Turn.refl _ _).drewN _)).mono ?_; rintro e wy ⟨rfl, hy⟩; have cony := hy.1.on_.cell n; rw [onc_at E n hn, hb2.out] at cony; have zy := hy.1.on_.thawed n; have ly := hy.1.on_.lt; replace hy := Lib.hid hy)
              all_goals
                go_wp2_with fail
                go_meet
                case rel =>
                  have hz := hy.out.1.store hn
                  rw [hy.out.2] at hz
                  exact ⟨_, _, rfl, hz⟩
          · subst h4
            have CA : Hid (Calls Try.prog 14 #[.pointer (some ⟨Z, 0, none⟩)] wr fun e w' => (∃ n : Nat, e = .returned (.int .i64 (n : Int))) ∧ ∃ E', PiS w1 w' Z Z ob E' (k + 1)) :=
              Lib.hid ((collect_plain (pin_plain Z Z) hst.out.ep hst.out.coll hst.out.fs).mono fun e w' ⟨h, hl, he, ht⟩ => ⟨⟨_, h⟩, _, hst.out.adv (runs_le _ _) he ht⟩)
            go_wp2_with fail
            refine CA.out.mono ?_
            rintro e wy ⟨⟨nr, rfl⟩, E', hy⟩
            replace hy := Lib.hid hy
            clear CA hst con
            go_wp2_with fail
            go_meet
            case rel => exact ⟨_, _, rfl, hy⟩
        case rest =>
        obtain ⟨wx, E', hwx, hy⟩ := hcut
        subst hwx
        clear hst con zob few shrt ltob
        have PN : Hid (Calls Try.prog 17 #[.pointer (some ⟨Z, 0, none⟩)] wx (PinnedPost wx E'.tasks)) := Lib.hid (pinned_any hy.out.ep)
        go_wp2_with fail
        refine PN.out.mono ?_
        rintro e wp ⟨A, capp, B, rfl, hB, hrow, htp⟩
        have hp := Lib.hid (hy.out.same htp)
        have HROW := Lib.hid hrow
        clear hrow htp hB PN hy
        have hl5 : E'.tasks.length ≤ 100000 := by unfold Ab.tasks; rw [List.length_map]; exact hp.out.wf.small.1
        have h5 : Hid (∀ x ∈ E'.tasks, 0 ≤ x ∧ x < 5) := Lib.hid fun x hx => by
          unfold Ab.tasks at hx
          obtain ⟨p, hp1, rfl⟩ := List.mem_map.1 hx
          exact hp.out.five p hp1
        obtain ⟨T, hT⟩ : ∃ T, T = E'.tasks := ⟨_, rfl⟩
        have HT := Lib.hid hT
        rw [← hT] at HROW hl5 h5 ⊢
        clear hT
        go_wp2_with fail
        go_loopw [8, 9] (fun kv nv wz => ∃ m : Nat, m ≤ 5 ∧ nv = .int .i64 (m : Int) ∧ kv = .int .i64 (rk T m : Int) ∧ wz = wp) (fun _ nv _ => 5 - (intOf nv).toNat)
        case atStart => exact ⟨0, Nat.zero_le _, rfl, by rw [rk_zero fun x hx => (h5.out x hx).1]; rfl, rfl⟩
        case round =>
          obtain ⟨m, hm, rfl, rfl, hw⟩ := hrel
          have hw := hw.symm
          subst hw
          by_cases hm5 : m < 5
          · have m5 : (m : Int) < 5 := by omega
            have m0 : (0 : Int) ≤ (m : Int) := by omega
            have con := hp.out.cell m hm5
            have ltob := hp.out.on_.lt
            have hup : T.Pairwise (· < ·) := by rw [HT.out]; exact Ab.tasks_up hp.out.wf
            have hiff := onb_iff hp.out.wf m
            rw [← HT.out] at hiff
            cases hb : onb E' m with
            | false =>
              have hnm : ¬ (m : Int) ∈ T := fun h => by have := hiff.2 h; rw [hb] at this; cases this
              have hk := rk_not hnm
              rw [hb] at con
              clear hup hiff hb hnm
              replace hk := Lib.hid hk
              go_wp2_with fail
              go_roundw
              case rel => exact ⟨m + 1, by omega, by go_num, by rw [hk.out], trivial⟩
              case measure => simp [intOf]; omega
            | true =>
              obtain ⟨hat, hk⟩ := rk_mem hup (hiff.1 hb)
              rw [hb] at con
              have hlt2 := (List.getElem?_eq_some_iff.1 hat).1
              obtain ⟨rg, rfl, rl, rc⟩ := krow_at HROW.out hat
              have b1 : (rk T m : Int) < (T.length : Int) := by omega
              have b0 : (0 : Int) ≤ (rk T m : Int) := by omega
              clear hup hiff hb hat
              replace hk := Lib.hid hk
              generalize hR : rk T m = R at rc b1 b0 hlt2 ⊢
              replace hR := Lib.hid hR
              go_wp2_with fail
              go_roundw
              case rel => exact ⟨m + 1, by omega, by go_num, by rw [hk.out, hR.out]; go_num, trivial⟩
              case measure => simp [intOf]; omega
          · obtain rfl : m = 5 := by omega
            have hall := rk_all (l := T) (n := 5) (fun x hx => (h5.out x hx).2)
            rw [hall]
            clear hall
            have HPS := Lib.hid hp.out
            go_wp2_with fail
            go_roundw
            case rel => exact ⟨k + 1, E', by omega, by go_num, hp⟩
            case measure => simp [intOf]; omega
      · have hkl : ¬ (k : Int) < (len : Int) := by omega
        go_wp2_with fail
        go_ret
        exact ⟨rfl, (H1.out.trans ((hst.out.tn).none (by have := hZ.out; omega))).below (Nat.le_refl _) (fun _ _ h => h)⟩
end Go.Proofs.Ythohhehelnkpgaa
