/-
  VlockPlays, walked.
-/
import Derived.Test.YtildhokanfmabaaWRef
import Derived.Test.YtildhokanfmabaaActs
import Derived.Deep.Cut
import Derived.Deep.CutRange
import Derived.Deep.RegionWith
namespace Go.Proofs.Ytildhokanfmabaa
open Go.RowKit
set_option linter.unusedVariables false

theorem store_at {w : World} {g v : Nat} (h : Cel w g v) (u : Nat) (hu : u < 18446744073709551616) : Calls Try.prog 27 #[.pointer (some ⟨g, 0, none⟩), .int .u64 (u : Int)] w fun e w' => e = .returned (.tuple #[]) ∧ Cel w' g u ∧ Turn (· = g) w w' := store_any h u hu

/-- What stands at a round's head: the cell's word is u; all that was there is as it was. -/
structure PInv (w wr : World) (g u : Nat) : Prop where
  cel : Cel wr g u
  old : Turn (fun _ => False) w wr
  new : w.heap.size ≤ g
theorem PInv.same {w wr wr' : World} {g u : Nat} (h : PInv w wr g u) (t : Turn (fun _ => False) wr wr') : PInv w wr' g u := ⟨h.cel.turn t (fun h => h), h.old.trans t, h.new⟩
theorem PInv.turned {w wr wr' : World} {g u v : Nat} (h : PInv w wr g u) (hc : Cel wr' g v) (t : Turn (· = g) wr wr') : PInv w wr' g v := ⟨hc, h.old.then t (fun i hi e => by have := h.new; omega), h.new⟩

def PRel (w : World) (len g : Nat) (sw si : Value) (wr : World) : Prop := ∃ (u j : Nat), j ≤ len ∧ sw = .int .u64 (u : Int) ∧ si = .int .i64 (j : Int) ∧ PInv w wr g u

set_option maxRecDepth 100000 in
set_option maxHeartbeats 1000000 in
theorem plays_long (len cap : Nat) (A0 : Option Addr) (none_ : Bool) (w : World) (hlen : 500 < len) (hm : len ≤ 9223372036854775807) : Calls Try.prog 5 #[.slice A0 len cap, .bool none_] w fun e w' => e = .returned (.bool true) ∧ Below w.heap.size w w' := by
  have g : decide ((500 : Int) < (len : Int)) = true := by simp; omega
  have AW := Lib.hid (awake_any w)
  go_enter Try.func5, Try.ntmps5
  go_wp2_with fail
  refine AW.out.mono ?_
  rintro _ w1 ⟨rfl, ht⟩
  have T1 := Lib.hid ht
  clear ht AW
  go_wp2_with fail
  go_ret
  exact ⟨rfl, T1.out.below (Nat.le_refl _) (fun _ _ h => h)⟩

theorem cells_of {w : World} {lb lo j : Nat} {d : Int} {a b : Nat} (hlb : lb < w.heap.size) (c0 : w.cell? ⟨lb, lo + j * 3, none⟩ = some (.int .i64 d)) (c1 : w.cell? ⟨lb, lo + j * 3 + 1, none⟩ = some (.int .u64 (a : Int))) (c2 : w.cell? ⟨lb, lo + j * 3 + 2, none⟩ = some (.int .u64 (b : Int))) :
    ∀ W', Turn (fun _ => False) w W' → W'.cell? ⟨lb, lo + j * 3, none⟩ = some (.int .i64 d) ∧ W'.cell? ⟨lb, lo + j * 3 + 1, none⟩ = some (.int .u64 (a : Int)) ∧ W'.cell? ⟨lb, lo + j * 3 + 2, none⟩ = some (.int .u64 (b : Int)) := fun W' t =>
  ⟨(World.cell?_of_block (w := w) (t.block lb hlb (fun h => h))).trans c0, (World.cell?_of_block (w := w) (t.block lb hlb (fun h => h))).trans c1, (World.cell?_of_block (w := w) (t.block lb hlb (fun h => h))).trans c2⟩

set_option maxRecDepth 100000 in
set_option maxHeartbeats 8000000 in
theorem plays_some (len cap : Nat) (A0 : Option Addr) (w : World) (hlen : len ≤ 500) (hl : Hid (Acts w A0 len)) : Calls Try.prog 5 #[.slice A0 len cap, .bool false] w fun e w' => e = .returned (.bool true) ∧ Below w.heap.size w w' := by
  have g500 : decide ((500 : Int) < (len : Int)) = false := by simp; omega
  have AW := Lib.hid (awake_any w)
  go_enter Try.func5, Try.ntmps5
  go_wp2_with fail
  refine AW.out.mono ?_
  rintro _ w1 ⟨rfl, ht⟩
  have T1 := Lib.hid ht
  clear ht AW
  have HI : Hid (PRel w len w1.heap.size (.int .u64 0) (.int .i64 0) (w1.alloc (.cells #[.int .u64 0] 34))) := Lib.hid ⟨0, 0, Nat.zero_le _, rfl, rfl, Cel.made w1, T1.out.alloc _, T1.out.size⟩
  clear T1
  go_wp2_with fail
  generalize w1.heap.size = g at HI ⊢
  go_loopw [6, 7] (fun sw si wr => PRel w len g sw si wr) (fun _ si _ => len - (intOf si).toNat)
  case atStart => exact HI.out
  case round =>
    obtain ⟨u, j, hj, rfl, rfl, hinv⟩ := hrel
    have HV := Lib.hid hinv
    have ul := hinv.cel.lt
    clear hinv HI
    by_cases hlt : j < len
    · have hkl : (j : Int) < (len : Int) := by omega
      obtain ⟨lb, lo, rfl, hlb, d, a, b, ha, hb, c0, c1, c2⟩ := hl.out j hlt
      have HC := Lib.hid (cells_of hlb c0 c1 c2)
      clear c0 c1 c2
      have X1 := of_any u ul wr
      obtain ⟨V, hV⟩ : ∃ V, V = u / 4 := ⟨_, rfl⟩
      rw [← hV] at X1
      clear hV
      have hHd : (lck u && !ded u) = (lck u && !ded u) := rfl
      generalize hL : lck u = L at X1 hHd
      generalize hK : ded u = K at X1 hHd
      obtain ⟨Hd, hh⟩ : ∃ Hd, Hd = (L && !K) := ⟨_, rfl⟩
      have HH : Hid ((lck u && !ded u) = Hd) := Lib.hid (by rw [hL, hK, hh])
      clear hHd hL hK
      replace X1 := Lib.hid X1
      go_wp2_with fail
      refine X1.out.mono ?_
      rintro _ w5 ⟨rfl, ht⟩
      have V5 := Lib.hid (HV.out.same (ht.trans (made_turn w5 (.cells #[.int .u64 (V : Int), .bool L, .bool K] 39) _)))
      clear ht X1 HV
      go_upto_region 13 with (fail)
      go_cut [9] from 23 to 143 (fun s wx => s = .bool Hd ∧ Hid (PInv w wx g u))
      case first =>
        have h3 : (L = true ∧ K = false) ∨ (L = true ∧ K = true) ∨ L = false := by cases L <;> cases K <;> simp
        rcases h3 with ⟨rfl, rfl⟩ | ⟨rfl, rfl⟩ | rfl
        all_goals
          go_wp2_with fail
          go_meet
          case rel => exact ⟨by rw [hh]; rfl, V5⟩
      case rest =>
        clear V5 hh
        obtain ⟨rfl, HV⟩ := hcut
        obtain ⟨c0, c1, c2⟩ := HC.out _ HV.out.old
        by_cases d0 : d = 0
        · have k0 : (d == 0) = true := by simp [d0]
          clear d0
          go_wp2_with fail
          refine (store_any HV.out.cel a ha).mono ?_
          rintro _ w6 ⟨rfl, hc, ht⟩
          have V6 := Lib.hid (HV.out.turned hc ht)
          clear hc ht c0 c1 c2
          obtain ⟨c0, c1, c2⟩ := HC.out _ V6.out.old
          go_wp2_with fail
          refine (load_any V6.out.cel).mono ?_
          rintro _ q9 ⟨rfl, hq⟩
          have hq := hq.symm
          subst hq
          go_wp2_with fail
          go_roundw
          case rel => exact ⟨a, j + 1, by omega, rfl, by go_num, V6.out⟩
          case measure => simp [intOf]; omega
        · have k0 : (d == 0) = false := by simp [d0]
          clear d0
          by_cases d1 : d = 1
          · have k1 : (d == 1) = true := by simp [d1]
            clear d1
            by_cases hu : u = a
            · have eu : ((u : Int) == (a : Int)) = true := by simp [hu]
              have CS : Hid (∀ W, Cel W g u → Calls Try.prog 28 #[.pointer (some ⟨g, 0, none⟩), .int .u64 (a : Int), .int .u64 (b : Int)] W fun e w' => e = .returned (.bool true) ∧ Cel w' g b ∧ Turn (· = g) W w') := Lib.hid (fun W h => by
                have := cas_any h a b hb
                simp only [hu, decide_true, if_true] at this
                exact this)
              clear hu
              go_upto_region 21 with (fail)
              go_cut [89] from 23 to 143 (fun s wx => s = .bool false ∧ Hid (PInv w wx g b))
              case first =>
                have HD := Lib.hid (HV.out.same ((Turn.refl (fun _ => False) wc).drew))
                go_region_with (go_at_call 28; refine (CS.out _ HD.out.cel).mono ?_; rintro e w6 ⟨rfl, hc, ht⟩; have HX := Lib.hid (And.intro hc ht); clear hc ht)
                all_goals
                  go_wp2_with fail
                  go_meet
                  case rel => exact ⟨rfl, Lib.hid (HD.out.turned HX.out.1 HX.out.2)⟩
              case rest =>
                clear HV c0 c1 c2
                obtain ⟨rfl, V6⟩ := hcut
                obtain ⟨c0, c1, c2⟩ := HC.out _ V6.out.old
                go_wp2_with fail
                refine (load_any V6.out.cel).mono ?_
                rintro _ q9 ⟨rfl, hq⟩
                have hq := hq.symm
                subst hq
                go_wp2_with fail
                go_roundw
                case rel => exact ⟨b, j + 1, by omega, rfl, by go_num, V6.out⟩
                case measure => simp [intOf]; omega
            · have eu : ((u : Int) == (a : Int)) = false := by simp; omega
              have CS : Hid (∀ W, Cel W g u → Calls Try.prog 28 #[.pointer (some ⟨g, 0, none⟩), .int .u64 (a : Int), .int .u64 (b : Int)] W fun e w' => e = .returned (.bool false) ∧ Cel w' g u ∧ Turn (· = g) W w') := Lib.hid (fun W h => by
                have := cas_any h a b hb
                simp only [hu, decide_false, if_false] at this
                exact this)
              clear hu
              go_upto_region 21 with (fail)
              go_cut [89] from 23 to 143 (fun s wx => s = .bool false ∧ Hid (PInv w wx g u))
              case first =>
                have HD := Lib.hid (HV.out.same ((Turn.refl (fun _ => False) wc).drew))
                go_region_with (go_at_call 28; refine (CS.out _ HD.out.cel).mono ?_; rintro e w6 ⟨rfl, hc, ht⟩; have HX := Lib.hid (And.intro hc ht); clear hc ht)
                all_goals
                  go_wp2_with fail
                  go_meet
                  case rel => exact ⟨rfl, Lib.hid (HD.out.turned HX.out.1 HX.out.2)⟩
              case rest =>
                clear HV c0 c1 c2
                obtain ⟨rfl, V6⟩ := hcut
                obtain ⟨c0, c1, c2⟩ := HC.out _ V6.out.old
                go_wp2_with fail
                refine (load_any V6.out.cel).mono ?_
                rintro _ q9 ⟨rfl, hq⟩
                have hq := hq.symm
                subst hq
                go_wp2_with fail
                go_roundw
                case rel => exact ⟨u, j + 1, by omega, rfl, by go_num, V6.out⟩
                case measure => simp [intOf]; omega
          · have k1 : (d == 1) = false := by simp [d1]
            clear d1
            by_cases d2 : d = 2
            · have k2 : (d == 2) = true := by simp [d2]
              clear d2
              cases ho : opn u with
              | true =>
                obtain ⟨y, hy⟩ : ∃ y, y = u + 1 := ⟨_, rfl⟩
                have RL : Hid (∀ W, Calls Try.prog 20 #[.int .u64 (u : Int)] W fun e W' => e = .returned (.tuple #[.int .u64 (y : Int), .bool true]) ∧ Turn (fun _ => False) W W') := Lib.hid (fun W => by
                  have := rlock_any u ul W
                  simp only [ho, if_true] at this
                  rw [hy]; exact this)
                have TK : Hid (∀ W, Cel W g u → Calls Try.prog 14 #[.pointer (some ⟨g, 0, none⟩)] W fun e w' => e = .returned (.tuple #[.int .u64 (u : Int), .bool true]) ∧ Cel w' g y ∧ Turn (· = g) W w') := Lib.hid (fun W h => by rw [hy]; exact take_yes h ho)
                clear hy ho
                go_wp2_with fail
                refine (RL.out _).mono ?_
                rintro _ w6 ⟨rfl, ht⟩
                have H6 := Lib.hid ht
                clear ht
                have V6 := Lib.hid (HV.out.same H6.out)
                clear H6 HV
                go_wp2_with fail
                refine (TK.out _ V6.out.cel).mono ?_
                rintro _ w7 ⟨rfl, hc, ht⟩
                have V7 := Lib.hid (V6.out.turned hc ht)
                clear hc ht V6
                go_wp2_with fail
                refine (load_any V7.out.cel).mono ?_
                rintro _ q9 ⟨rfl, hq⟩
                have hq := hq.symm
                subst hq
                go_wp2_with fail
                go_roundw
                case rel => exact ⟨y, j + 1, by omega, rfl, by go_num, V7.out⟩
                case measure => simp [intOf]; omega
              | false =>
                have RL : Hid (∀ W, Calls Try.prog 20 #[.int .u64 (u : Int)] W fun e W' => e = .returned (.tuple #[.int .u64 (u : Int), .bool false]) ∧ Turn (fun _ => False) W W') := Lib.hid (fun W => by
                  have := rlock_any u ul W
                  simp only [ho, Bool.false_eq_true, if_false] at this
                  exact this)
                have HO := Lib.hid ho
                clear ho
                go_wp2_with fail
                refine (RL.out _).mono ?_
                rintro _ w6 ⟨rfl, ht⟩
                have H6 := Lib.hid ht
                clear ht
                have V6 := Lib.hid (HV.out.same H6.out)
                clear H6 HV
                go_wp2_with fail
                refine (take_no V6.out.cel HO.out).mono ?_
                rintro _ q7 ⟨rfl, hq⟩
                have hq := hq.symm
                subst hq
                go_wp2_with fail
                refine (load_any V6.out.cel).mono ?_
                rintro _ q9 ⟨rfl, hq⟩
                have hq := hq.symm
                subst hq
                go_wp2_with fail
                go_roundw
                case rel => exact ⟨u, j + 1, by omega, rfl, by go_num, V6.out⟩
                case measure => simp [intOf]; omega
            · have k2 : (d == 2) = false := by simp [d2]
              clear d2
              by_cases d3 : d = 3
              · have k3 : (d == 3) = true := by simp [d3]
                clear d3
                cases Hd with
                | true =>
                  have RL := Lib.hid (fun W => runlock_any u ul W)
                  have TK := Lib.hid (give_yes HV.out.cel HH.out)
                  generalize unl u = y at RL TK
                  go_wp2_with fail
                  refine TK.out.mono ?_
                  rintro _ w7 ⟨rfl, hc, ht⟩
                  have V7 := Lib.hid (HV.out.turned hc ht)
                  clear hc ht HV TK
                  go_wp2_with fail
                  refine (RL.out _).mono ?_
                  rintro _ w8 ⟨rfl, ht⟩
                  have H8 := Lib.hid ht
                  clear ht
                  have V8 := Lib.hid (V7.out.same H8.out)
                  clear H8 V7
                  go_wp2_with fail
                  refine (load_any V8.out.cel).mono ?_
                  rintro _ q9 ⟨rfl, hq⟩
                  have hq := hq.symm
                  subst hq
                  go_wp2_with fail
                  go_roundw
                  case rel => exact ⟨y, j + 1, by omega, rfl, by go_num, V8.out⟩
                  case measure => simp [intOf]; omega
                | false =>
                  go_wp2_with fail
                  refine (give_no HV.out.cel HH.out).mono ?_
                  rintro _ q7 ⟨rfl, hq⟩
                  have hq := hq.symm
                  subst hq
                  go_wp2_with fail
                  refine (load_any HV.out.cel).mono ?_
                  rintro _ q9 ⟨rfl, hq⟩
                  have hq := hq.symm
                  subst hq
                  go_wp2_with fail
                  go_roundw
                  case rel => exact ⟨u, j + 1, by omega, rfl, by go_num, HV.out⟩
                  case measure => simp [intOf]; omega
              · have k3 : (d == 3) = false := by simp [d3]
                clear d3
                by_cases d4 : d = 4
                · have k4 : (d == 4) = true := by simp [d4]
                  clear d4
                  cases Hd with
                  | true =>
                    have RL := Lib.hid (fun W => rkill_any u ul W)
                    have TK := Lib.hid (end_yes HV.out.cel HH.out)
                    generalize kil u = y at RL TK
                    go_wp2_with fail
                    refine TK.out.mono ?_
                    rintro _ w7 ⟨rfl, hc, ht⟩
                    have V7 := Lib.hid (HV.out.turned hc ht)
                    clear hc ht HV TK
                    go_wp2_with fail
                    refine (RL.out _).mono ?_
                    rintro _ w8 ⟨rfl, ht⟩
                    have H8 := Lib.hid ht
                    clear ht
                    have V8 := Lib.hid (V7.out.same H8.out)
                    clear H8 V7
                    go_wp2_with fail
                    refine (load_any V8.out.cel).mono ?_
                    rintro _ q9 ⟨rfl, hq⟩
                    have hq := hq.symm
                    subst hq
                    go_wp2_with fail
                    go_roundw
                    case rel => exact ⟨y, j + 1, by omega, rfl, by go_num, V8.out⟩
                    case measure => simp [intOf]; omega
                  | false =>
                    go_wp2_with fail
                    refine (end_no HV.out.cel HH.out).mono ?_
                    rintro _ q7 ⟨rfl, hq⟩
                    have hq := hq.symm
                    subst hq
                    go_wp2_with fail
                    refine (load_any HV.out.cel).mono ?_
                    rintro _ q9 ⟨rfl, hq⟩
                    have hq := hq.symm
                    subst hq
                    go_wp2_with fail
                    go_roundw
                    case rel => exact ⟨u, j + 1, by omega, rfl, by go_num, HV.out⟩
                    case measure => simp [intOf]; omega
                · have k4 : (d == 4) = false := by simp [d4]
                  clear d4
                  go_wp2_with fail
                  refine (load_any HV.out.cel).mono ?_
                  rintro _ q9 ⟨rfl, hq⟩
                  have hq := hq.symm
                  subst hq
                  go_wp2_with fail
                  go_roundw
                  case rel => exact ⟨u, j + 1, by omega, rfl, by go_num, HV.out⟩
                  case measure => simp [intOf]; omega
    · have hd : decide ((j : Int) < (len : Int)) = false := by simp; omega
      go_wp2_with fail
      go_ret
      exact ⟨rfl, HV.out.old.below (Nat.le_refl _) (fun _ _ h => h)⟩
end Go.Proofs.Ytildhokanfmabaa
