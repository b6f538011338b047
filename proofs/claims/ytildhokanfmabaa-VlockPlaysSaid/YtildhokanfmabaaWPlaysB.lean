/-
  VlockPlays at no cell, walked; and the two together.
-/
import Derived.Test.YtildhokanfmabaaWPlays
namespace Go.Proofs.Ytildhokanfmabaa
open Go.RowKit
set_option linter.unusedVariables false

def NRel (w : World) (len : Nat) (sw si : Value) (wr : World) : Prop := ∃ (j : Nat), j ≤ len ∧ sw = .int .u64 0 ∧ si = .int .i64 (j : Int) ∧ Turn (fun _ => False) w wr

set_option maxRecDepth 100000 in
set_option maxHeartbeats 8000000 in
theorem plays_none (len cap : Nat) (A0 : Option Addr) (w : World) (hlen : len ≤ 500) (hl : Hid (Acts w A0 len)) : Calls Try.prog 5 #[.slice A0 len cap, .bool true] w fun e w' => e = .returned (.bool true) ∧ Below w.heap.size w w' := by
  have g500 : decide ((500 : Int) < (len : Int)) = false := by simp; omega
  have AW := Lib.hid (awake_any w)
  go_enter Try.func5, Try.ntmps5
  go_wp2_with fail
  refine AW.out.mono ?_
  rintro _ w1 ⟨rfl, ht⟩
  have T1 := Lib.hid ht
  clear ht AW
  have HI : Hid (NRel w len (.int .u64 0) (.int .i64 0) (w1.alloc (.cells #[.int .u64 0] 34))) := Lib.hid ⟨0, Nat.zero_le _, rfl, rfl, T1.out.alloc _⟩
  clear T1
  go_wp2_with fail
  go_loopw [6, 7] (fun sw si wr => NRel w len sw si wr) (fun _ si _ => len - (intOf si).toNat)
  case atStart => exact HI.out
  case round =>
    obtain ⟨j, hj, rfl, rfl, hinv⟩ := hrel
    have HV := Lib.hid hinv
    clear hinv HI
    by_cases hlt : j < len
    · have hkl : (j : Int) < (len : Int) := by omega
      obtain ⟨lb, lo, rfl, hlb, d, a, b, ha, hb, c0, c1, c2⟩ := hl.out j hlt
      have HC := Lib.hid (cells_of hlb c0 c1 c2)
      clear c0 c1 c2
      have X1 : Hid (Calls Try.prog 19 #[.int .u64 0] wr fun e W' => e = .returned (.agg #[.int .u64 0, .bool false, .bool false]) ∧ Turn (fun _ => False) wr W') := Lib.hid (of_any 0 (by decide) wr)
      go_wp2_with fail
      refine X1.out.mono ?_
      rintro _ w5 ⟨rfl, ht⟩
      have V5 := Lib.hid (HV.out.trans (ht.trans (made_turn w5 (.cells #[.int .u64 0, .bool false, .bool false] 39) _)))
      clear ht X1 HV
      go_upto_region 13 with (fail)
      go_cut [9] from 23 to 143 (fun s wx => s = .bool false ∧ Hid (Turn (fun _ => False) w wx))
      case first =>
        go_wp2_with fail
        go_meet
        case rel => exact ⟨rfl, V5⟩
      case rest =>
        clear V5
        obtain ⟨rfl, HV⟩ := hcut
        obtain ⟨c0, c1, c2⟩ := HC.out _ HV.out
        by_cases d0 : d = 0
        · have k0 : (d == 0) = true := by simp [d0]
          clear d0
          go_wp2_with fail
          refine (store_nil a _).mono ?_
          rintro _ q6 ⟨rfl, hq⟩
          have hq := hq.symm
          subst hq
          go_wp2_with fail
          refine (load_nil _).mono ?_
          rintro _ q9 ⟨rfl, hq⟩
          have hq := hq.symm
          subst hq
          go_wp2_with fail
          go_roundw
          case rel => exact ⟨j + 1, by omega, rfl, by go_num, HV.out⟩
          case measure => simp [intOf]; omega
        · have k0 : (d == 0) = false := by simp [d0]
          clear d0
          by_cases d1 : d = 1
          · have k1 : (d == 1) = true := by simp [d1]
            clear d1
            have CS := Lib.hid (fun W => cas_nil a b W)
            by_cases hu : a = 0
            · subst hu
              have eu : ((0 : Int) == ((0 : Nat) : Int)) = true := by simp
              go_upto_region 21 with (fail)
              go_cut [89] from 23 to 143 (fun s wx => s = .bool false ∧ Hid (Turn (fun _ => False) w wx))
              case first =>
                have HD := Lib.hid (HV.out.drew)
                go_region_with (go_at_call 28; refine (CS.out _).mono ?_; rintro e w6 ⟨rfl, hq⟩; have hq := hq.symm; subst hq)
                all_goals
                  go_wp2_with fail
                  go_meet
                  case rel => exact ⟨rfl, HD⟩
              case rest =>
                clear HV c0 c1 c2
                obtain ⟨rfl, V6⟩ := hcut
                go_wp2_with fail
                refine (load_nil _).mono ?_
                rintro _ q9 ⟨rfl, hq⟩
                have hq := hq.symm
                subst hq
                go_wp2_with fail
                go_roundw
                case rel => exact ⟨j + 1, by omega, rfl, by go_num, V6.out⟩
                case measure => simp [intOf]; omega
            · have eu : ((0 : Int) == (a : Int)) = false := by simp; omega
              go_upto_region 21 with (fail)
              go_cut [89] from 23 to 143 (fun s wx => s = .bool false ∧ Hid (Turn (fun _ => False) w wx))
              case first =>
                have HD := Lib.hid (HV.out.drew)
                go_region_with (go_at_call 28; refine (CS.out _).mono ?_; rintro e w6 ⟨rfl, hq⟩; have hq := hq.symm; subst hq)
                all_goals
                  go_wp2_with fail
                  go_meet
                  case rel => exact ⟨rfl, HD⟩
              case rest =>
                clear HV c0 c1 c2
                obtain ⟨rfl, V6⟩ := hcut
                go_wp2_with fail
                refine (load_nil _).mono ?_
                rintro _ q9 ⟨rfl, hq⟩
                have hq := hq.symm
                subst hq
                go_wp2_with fail
                go_roundw
                case rel => exact ⟨j + 1, by omega, rfl, by go_num, V6.out⟩
                case measure => simp [intOf]; omega
          · have k1 : (d == 1) = false := by simp [d1]
            clear d1
            by_cases d2 : d = 2
            · have k2 : (d == 2) = true := by simp [d2]
              clear d2
              have RL : Hid (∀ W, Calls Try.prog 20 #[.int .u64 0] W fun e W' => e = .returned (.tuple #[.int .u64 1, .bool true]) ∧ Turn (fun _ => False) W W') := Lib.hid (fun W => rlock_any 0 (by decide) W)
              go_wp2_with fail
              refine (RL.out _).mono ?_
              rintro _ w6 ⟨rfl, ht⟩
              have H6 := Lib.hid ht
              clear ht
              have V6 := Lib.hid (HV.out.trans H6.out)
              clear H6 HV
              go_wp2_with fail
              refine (take_nil _).mono ?_
              rintro _ q7 ⟨rfl, hq⟩
              have hq := hq.symm
              subst hq
              go_wp2_with fail
              refine (load_nil _).mono ?_
              rintro _ q9 ⟨rfl, hq⟩
              have hq := hq.symm
              subst hq
              go_wp2_with fail
              go_roundw
              case rel => exact ⟨j + 1, by omega, rfl, by go_num, V6.out⟩
              case measure => simp [intOf]; omega
            · have k2 : (d == 2) = false := by simp [d2]
              clear d2
              by_cases d3 : d = 3
              · have k3 : (d == 3) = true := by simp [d3]
                clear d3
                go_wp2_with fail
                refine (give_nil _).mono ?_
                rintro _ q7 ⟨rfl, hq⟩
                have hq := hq.symm
                subst hq
                go_wp2_with fail
                refine (load_nil _).mono ?_
                rintro _ q9 ⟨rfl, hq⟩
                have hq := hq.symm
                subst hq
                go_wp2_with fail
                go_roundw
                case rel => exact ⟨j + 1, by omega, rfl, by go_num, HV.out⟩
                case measure => simp [intOf]; omega
              · have k3 : (d == 3) = false := by simp [d3]
                clear d3
                by_cases d4 : d = 4
                · have k4 : (d == 4) = true := by simp [d4]
                  clear d4
                  go_wp2_with fail
                  refine (end_nil _).mono ?_
                  rintro _ q7 ⟨rfl, hq⟩
                  have hq := hq.symm
                  subst hq
                  go_wp2_with fail
                  refine (load_nil _).mono ?_
                  rintro _ q9 ⟨rfl, hq⟩
                  have hq := hq.symm
                  subst hq
                  go_wp2_with fail
                  go_roundw
                  case rel => exact ⟨j + 1, by omega, rfl, by go_num, HV.out⟩
                  case measure => simp [intOf]; omega
                · have k4 : (d == 4) = false := by simp [d4]
                  clear d4
                  go_wp2_with fail
                  refine (load_nil _).mono ?_
                  rintro _ q9 ⟨rfl, hq⟩
                  have hq := hq.symm
                  subst hq
                  go_wp2_with fail
                  go_roundw
                  case rel => exact ⟨j + 1, by omega, rfl, by go_num, HV.out⟩
                  case measure => simp [intOf]; omega
    · have hd : decide ((j : Int) < (len : Int)) = false := by simp; omega
      go_wp2_with fail
      go_ret
      exact ⟨rfl, HV.out.below (Nat.le_refl _) (fun _ _ h => h)⟩

theorem plays_law (len cap : Nat) (A0 : Option Addr) (none_ : Bool) (w : World) (hr : Acts w A0 len ∧ len ≤ maxLen) :
    Calls Try.prog 5 #[.slice A0 len cap, .bool none_] w fun e w' => e = .returned (.bool true) ∧ Below w.heap.size w w' := by
  have hlm := hr.2
  unfold maxLen at hlm
  by_cases hlen : 500 < len
  · exact plays_long len cap A0 none_ w hlen (by omega)
  · cases none_ with
    | true => exact plays_none len cap A0 w (by omega) (Lib.hid hr.1)
    | false => exact plays_some len cap A0 w (by omega) (Lib.hid hr.1)
end Go.Proofs.Ytildhokanfmabaa
