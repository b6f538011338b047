/-
  ArtnodeKinds, walked.
-/
import Derived.Test.YtijlcehjlacihaaKi
import Derived.Deep.LoopGhost
namespace Go.Proofs.Ytijlcehjlacihaa
open Go.RowKit Go.Lib
set_option linter.unusedVariables false
set_option maxRecDepth 20000
set_option linter.unusedSimpArgs false


set_option maxHeartbeats 8000000 in
theorem kinds_any (len cap : Nat) (A0 : Option Addr) (zs : List Int) (bel : Int) (w : World) (hr : IsRow .u8 w A0 len cap zs) :
    Calls Try.prog 5 #[.slice A0 len cap, .int .i64 bel] w fun e w' => e = .returned (.bool true) ∧ Below w.heap.size w w' := by
  have CW := Lib.hid fun W => wakes_any W
  have CN := Lib.hid (NI.new_any (Z := Dom.of w.heap.size) w (Nat.le_refl _))
  have HB := Lib.hid (row_bytes hr)
  have hlen := row_len hr
  clear hr
  by_cases hbig : 400 < len
  · have hb1 : (400 : Int) < (len : Int) := by omega
    clear HB hlen
    go_enter Try.func5, Try.ntmps5
    go_wp2_with (go_at_call 8; (with_reducible refine (CW.out _).mono ?_); rintro e w1 ⟨rfl, ht⟩; replace ht := Lib.hid ht)
    go_ret
    exact ⟨rfl, ht.out.below (Nat.le_refl _) (fun _ _ h => h)⟩
  have hb1 : ¬ ((400 : Int) < (len : Int)) := by omega
  have hmk := @run_makeMap Try.prog
  clear hbig
  go_enter Try.func5, Try.ntmps5
  go_upto_region 4 with (go_at_call 9; (with_reducible refine CN.out.mono ?_); rintro e w1 ⟨a, rfl, hn, _, ht⟩; have H1 := Lib.hid (And.intro hn ht); clear hn ht)
  go_upto_region 6 with fail
  have HS0 : Hid (KiS w (w1.alloc (.map #[] 0)) a w1.heap.size 4 [] (fun _ => none)) := Lib.hid (by
    have tn : Turn No w1 (w1.alloc (.map #[] 0)) := (Turn.refl No w1).alloc _
    exact ⟨H1.out.1.no tn, IMap.made _ _ _, H1.out.2.size, fun b _ => rfl, H1.out.2.trans tn⟩)
  generalize w1.alloc (.map #[] 0) = w2 at HS0 ⊢
  generalize w1.heap.size = mb at HS0 ⊢
  clear H1 hmk CN
  go_loopw [7] (fun s wr => ∃ (i k : Nat) (L : List (Nat × Int)) (f : Int → Option Value), i ≤ len ∧ s = .int .i64 (i : Int) ∧ Hid (KiS w wr a mb k L f)) (fun s _ => len - (RowKit.intOf s).toNat)
  case atStart => exact ⟨0, 4, [], _, Nat.zero_le _, rfl, HS0⟩
  case round =>
    clear HS0
    obtain ⟨i, k, L, f, hi, rfl, HP⟩ := hrel
    by_cases hlt : i < len
    · obtain ⟨b, hb⟩ : ∃ b, (zs.getD i 0).toNat = b := ⟨_, rfl⟩
      obtain ⟨lb, lo, hA, _, hb256, c0⟩ := HB.out i hlt
      rw [hb] at hb256 c0
      subst hA
      clear hb
      replace c0 := NI.cell_no HP.out.tu c0
      have HLK := HP.out.look b hb256
      have HSET := Lib.hid (HP.out.set b (i : Int) hb256)
      have HDEL := Lib.hid (HP.out.drop b hb256 0)
      have HI := Lib.hid (And.intro hlt hb256)
      obtain ⟨s, hs⟩ : ∃ s, (getC L b).isSome = s := ⟨_, rfl⟩
      have hns : (getC L b).isNone = !s := by rw [← hs]; cases getC L b <;> rfl
      obtain ⟨x0, hx0⟩ : ∃ x, (getC L b).getD 0 = x := ⟨_, rfl⟩
      rw [hs, hx0] at HLK
      rw [hns] at HSET
      rw [hs] at HDEL
      clear hs hns hx0
      have hwb : wrap64 (b : Int) = (b : Int) := by simp only [wrap64]; omega
      have hi1 : (0 : Int) ≤ (i : Int) := by omega
      have hi2 : (i : Int) < (len : Int) := by omega
      have hs1 : ((!s) == s) = false := by cases s <;> rfl
      by_cases hc : (b : Int) < bel
      · by_cases hc2 : i % 2 = 1
        · have hm : ((i : Int)).tmod 2 = 1 := by rw [Int.tmod_eq_emod_of_nonneg hi1]; omega
          go_upto_region 17 with (go_at_call 13; (with_reducible refine HDEL.out.mono ?_); rintro e w3 ⟨rfl, w4, k2, hdel, hS⟩; replace hS := Lib.hid hS)
          clear hdel
          obtain ⟨L2, hP1⟩ : ∃ L2, delC L b = L2 := ⟨_, rfl⟩
          obtain ⟨f2, hP2⟩ : ∃ f2, del f (b : Int) = f2 := ⟨_, rfl⟩
          rw [hP1, hP2] at hS
          have hkd := hS.out.nd.kind
          have hok := hS.out.nd.ok
          have HPP := Lib.hid (And.intro hP1 hP2)
          obtain ⟨n2, hn2⟩ : ∃ n, L2.length = n := ⟨_, rfl⟩
          have CK := Lib.hid (NI.kind_any hS.out.nd)
          have CL := Lib.hid (NI.len_any hS.out.nd)
          have CG : Hid (Calls Try.prog 18 #[.pointer (some ⟨a, 0, none⟩), .int .u8 (b : Int)] w4 fun e w' => e = .returned (.tuple #[.int .i64 ((getC L2 b).getD 0), .bool (getC L2 b).isSome]) ∧ KiS w w' a mb k2 L2 f2) := Lib.hid ((NI.get_any hS.out.nd b HI.out.2).mono fun e w' q => ⟨q.1, hS.out.no q.2⟩)
          have hml : ∀ ty, (Builtin.len_ #[43] ty #[.map (some mb)]).run Try.prog w4 = .ok (.int .i64 (L2.length : Int)) w4 := fun ty => hS.out.mp.len Try.underlying43 ty
          obtain ⟨x2, hx2⟩ : ∃ x, (getC L2 b).getD 0 = x := ⟨_, rfl⟩
          obtain ⟨s2, hs2⟩ : ∃ s, (getC L2 b).isSome = s := ⟨_, rfl⟩
          have HL5 : Hid (∀ W, KiS w W a mb k2 L2 f2 → (Instr.lookup 43 (.map (some mb)) (.int .u8 (b : Int)) true).run Try.prog W = .ok (.tuple #[.int .i64 x2, .bool s2]) W) := Lib.hid fun W h => by rw [← hx2, ← hs2]; exact h.look b HI.out.2
          rw [hx2, hs2] at CG
          rw [hn2] at hml CL hok
          clear hx2 hs2 hn2 hP1 hP2 HLK HSET HDEL c0
          have hnk := hok.le
          have h16 := hok.a
          have h48 := hok.b
          have h256 := hok.c
          clear hok
          rcases hkd with e | e | e | e
          all_goals subst e
          all_goals simp at h16 h48 h256
          all_goals (have q1 : ¬ ((4 : Int) < (n2 : Int)) ∨ True := .inr trivial; clear q1)
          · have q1 : ¬ ((4 : Int) < (n2 : Int)) := by omega
            have q2 : ¬ ((n2 : Int) < 0) := by omega
            clear hnk
            go_wp2_with (first | (go_at_call 21; (with_reducible refine CK.out.mono ?_); rintro e w5 ⟨rfl, hw⟩; replace hw := hw.symm; subst hw) | (go_at_call 20; (with_reducible refine CL.out.mono ?_); rintro e w5 ⟨rfl, hw⟩; replace hw := hw.symm; subst hw) | (go_at_call 18; (with_reducible refine CG.out.mono ?_); rintro e w5 ⟨rfl, h5⟩; have hl5 := HL5.out _ h5; replace h5 := Lib.hid h5))
            exact ⟨⟨i + 1, _, L2, f2, by have := HI.out.1; omega, by go_num, h5⟩, by have := HI.out.1; simp [RowKit.intOf]; omega⟩
          · have q1 : ¬ ((16 : Int) < (n2 : Int)) := by omega
            have q2 : ¬ ((n2 : Int) < 4) := by omega
            clear hnk
            go_wp2_with (first | (go_at_call 21; (with_reducible refine CK.out.mono ?_); rintro e w5 ⟨rfl, hw⟩; replace hw := hw.symm; subst hw) | (go_at_call 20; (with_reducible refine CL.out.mono ?_); rintro e w5 ⟨rfl, hw⟩; replace hw := hw.symm; subst hw) | (go_at_call 18; (with_reducible refine CG.out.mono ?_); rintro e w5 ⟨rfl, h5⟩; have hl5 := HL5.out _ h5; replace h5 := Lib.hid h5))
            exact ⟨⟨i + 1, _, L2, f2, by have := HI.out.1; omega, by go_num, h5⟩, by have := HI.out.1; simp [RowKit.intOf]; omega⟩
          · have q1 : ¬ ((48 : Int) < (n2 : Int)) := by omega
            have q2 : ¬ ((n2 : Int) < 13) := by omega
            clear hnk
            go_wp2_with (first | (go_at_call 21; (with_reducible refine CK.out.mono ?_); rintro e w5 ⟨rfl, hw⟩; replace hw := hw.symm; subst hw) | (go_at_call 20; (with_reducible refine CL.out.mono ?_); rintro e w5 ⟨rfl, hw⟩; replace hw := hw.symm; subst hw) | (go_at_call 18; (with_reducible refine CG.out.mono ?_); rintro e w5 ⟨rfl, h5⟩; have hl5 := HL5.out _ h5; replace h5 := Lib.hid h5))
            exact ⟨⟨i + 1, _, L2, f2, by have := HI.out.1; omega, by go_num, h5⟩, by have := HI.out.1; simp [RowKit.intOf]; omega⟩
          · have q1 : ¬ ((256 : Int) < (n2 : Int)) := by omega
            have q2 : ¬ ((n2 : Int) < 37) := by omega
            clear hnk
            go_wp2_with (first | (go_at_call 21; (with_reducible refine CK.out.mono ?_); rintro e w5 ⟨rfl, hw⟩; replace hw := hw.symm; subst hw) | (go_at_call 20; (with_reducible refine CL.out.mono ?_); rintro e w5 ⟨rfl, hw⟩; replace hw := hw.symm; subst hw) | (go_at_call 18; (with_reducible refine CG.out.mono ?_); rintro e w5 ⟨rfl, h5⟩; have hl5 := HL5.out _ h5; replace h5 := Lib.hid h5))
            exact ⟨⟨i + 1, _, L2, f2, by have := HI.out.1; omega, by go_num, h5⟩, by have := HI.out.1; simp [RowKit.intOf]; omega⟩
        · have hm : ((i : Int)).tmod 2 = 0 := by rw [Int.tmod_eq_emod_of_nonneg hi1]; omega
          go_upto_region 17 with (go_at_call 11; (with_reducible refine HSET.out.mono ?_); rintro e w3 ⟨rfl, w4, k2, hset, hS⟩; replace hS := Lib.hid hS)
          clear hset
          obtain ⟨L2, hP1⟩ : ∃ L2, putC L b (i : Int) = L2 := ⟨_, rfl⟩
          obtain ⟨f2, hP2⟩ : ∃ f2, put f (b : Int) (.int .i64 (i : Int)) = f2 := ⟨_, rfl⟩
          rw [hP1, hP2] at hS
          have hkd := hS.out.nd.kind
          have hok := hS.out.nd.ok
          have HPP := Lib.hid (And.intro hP1 hP2)
          obtain ⟨n2, hn2⟩ : ∃ n, L2.length = n := ⟨_, rfl⟩
          have CK := Lib.hid (NI.kind_any hS.out.nd)
          have CL := Lib.hid (NI.len_any hS.out.nd)
          have CG : Hid (Calls Try.prog 18 #[.pointer (some ⟨a, 0, none⟩), .int .u8 (b : Int)] w4 fun e w' => e = .returned (.tuple #[.int .i64 ((getC L2 b).getD 0), .bool (getC L2 b).isSome]) ∧ KiS w w' a mb k2 L2 f2) := Lib.hid ((NI.get_any hS.out.nd b HI.out.2).mono fun e w' q => ⟨q.1, hS.out.no q.2⟩)
          have hml : ∀ ty, (Builtin.len_ #[43] ty #[.map (some mb)]).run Try.prog w4 = .ok (.int .i64 (L2.length : Int)) w4 := fun ty => hS.out.mp.len Try.underlying43 ty
          obtain ⟨x2, hx2⟩ : ∃ x, (getC L2 b).getD 0 = x := ⟨_, rfl⟩
          obtain ⟨s2, hs2⟩ : ∃ s, (getC L2 b).isSome = s := ⟨_, rfl⟩
          have HL5 : Hid (∀ W, KiS w W a mb k2 L2 f2 → (Instr.lookup 43 (.map (some mb)) (.int .u8 (b : Int)) true).run Try.prog W = .ok (.tuple #[.int .i64 x2, .bool s2]) W) := Lib.hid fun W h => by rw [← hx2, ← hs2]; exact h.look b HI.out.2
          rw [hx2, hs2] at CG
          rw [hn2] at hml CL hok
          clear hx2 hs2 hn2 hP1 hP2 HLK HSET HDEL c0
          have hnk := hok.le
          have h16 := hok.a
          have h48 := hok.b
          have h256 := hok.c
          clear hok
          rcases hkd with e | e | e | e
          all_goals subst e
          all_goals simp at h16 h48 h256
          all_goals (have q1 : ¬ ((4 : Int) < (n2 : Int)) ∨ True := .inr trivial; clear q1)
          · have q1 : ¬ ((4 : Int) < (n2 : Int)) := by omega
            have q2 : ¬ ((n2 : Int) < 0) := by omega
            clear hnk
            go_wp2_with (first | (go_at_call 21; (with_reducible refine CK.out.mono ?_); rintro e w5 ⟨rfl, hw⟩; replace hw := hw.symm; subst hw) | (go_at_call 20; (with_reducible refine CL.out.mono ?_); rintro e w5 ⟨rfl, hw⟩; replace hw := hw.symm; subst hw) | (go_at_call 18; (with_reducible refine CG.out.mono ?_); rintro e w5 ⟨rfl, h5⟩; have hl5 := HL5.out _ h5; replace h5 := Lib.hid h5))
            exact ⟨⟨i + 1, _, L2, f2, by have := HI.out.1; omega, by go_num, h5⟩, by have := HI.out.1; simp [RowKit.intOf]; omega⟩
          · have q1 : ¬ ((16 : Int) < (n2 : Int)) := by omega
            have q2 : ¬ ((n2 : Int) < 4) := by omega
            clear hnk
            go_wp2_with (first | (go_at_call 21; (with_reducible refine CK.out.mono ?_); rintro e w5 ⟨rfl, hw⟩; replace hw := hw.symm; subst hw) | (go_at_call 20; (with_reducible refine CL.out.mono ?_); rintro e w5 ⟨rfl, hw⟩; replace hw := hw.symm; subst hw) | (go_at_call 18; (with_reducible refine CG.out.mono ?_); rintro e w5 ⟨rfl, h5⟩; have hl5 := HL5.out _ h5; replace h5 := Lib.hid h5))
            exact ⟨⟨i + 1, _, L2, f2, by have := HI.out.1; omega, by go_num, h5⟩, by have := HI.out.1; simp [RowKit.intOf]; omega⟩
          · have q1 : ¬ ((48 : Int) < (n2 : Int)) := by omega
            have q2 : ¬ ((n2 : Int) < 13) := by omega
            clear hnk
            go_wp2_with (first | (go_at_call 21; (with_reducible refine CK.out.mono ?_); rintro e w5 ⟨rfl, hw⟩; replace hw := hw.symm; subst hw) | (go_at_call 20; (with_reducible refine CL.out.mono ?_); rintro e w5 ⟨rfl, hw⟩; replace hw := hw.symm; subst hw) | (go_at_call 18; (with_reducible refine CG.out.mono ?_); rintro e w5 ⟨rfl, h5⟩; have hl5 := HL5.out _ h5; replace h5 := Lib.hid h5))
            exact ⟨⟨i + 1, _, L2, f2, by have := HI.out.1; omega, by go_num, h5⟩, by have := HI.out.1; simp [RowKit.intOf]; omega⟩
          · have q1 : ¬ ((256 : Int) < (n2 : Int)) := by omega
            have q2 : ¬ ((n2 : Int) < 37) := by omega
            clear hnk
            go_wp2_with (first | (go_at_call 21; (with_reducible refine CK.out.mono ?_); rintro e w5 ⟨rfl, hw⟩; replace hw := hw.symm; subst hw) | (go_at_call 20; (with_reducible refine CL.out.mono ?_); rintro e w5 ⟨rfl, hw⟩; replace hw := hw.symm; subst hw) | (go_at_call 18; (with_reducible refine CG.out.mono ?_); rintro e w5 ⟨rfl, h5⟩; have hl5 := HL5.out _ h5; replace h5 := Lib.hid h5))
            exact ⟨⟨i + 1, _, L2, f2, by have := HI.out.1; omega, by go_num, h5⟩, by have := HI.out.1; simp [RowKit.intOf]; omega⟩
      · skip
        go_upto_region 17 with (go_at_call 11; (with_reducible refine HSET.out.mono ?_); rintro e w3 ⟨rfl, w4, k2, hset, hS⟩; replace hS := Lib.hid hS)
        clear hset
        obtain ⟨L2, hP1⟩ : ∃ L2, putC L b (i : Int) = L2 := ⟨_, rfl⟩
        obtain ⟨f2, hP2⟩ : ∃ f2, put f (b : Int) (.int .i64 (i : Int)) = f2 := ⟨_, rfl⟩
        rw [hP1, hP2] at hS
        have hkd := hS.out.nd.kind
        have hok := hS.out.nd.ok
        have HPP := Lib.hid (And.intro hP1 hP2)
        obtain ⟨n2, hn2⟩ : ∃ n, L2.length = n := ⟨_, rfl⟩
        have CK := Lib.hid (NI.kind_any hS.out.nd)
        have CL := Lib.hid (NI.len_any hS.out.nd)
        have CG : Hid (Calls Try.prog 18 #[.pointer (some ⟨a, 0, none⟩), .int .u8 (b : Int)] w4 fun e w' => e = .returned (.tuple #[.int .i64 ((getC L2 b).getD 0), .bool (getC L2 b).isSome]) ∧ KiS w w' a mb k2 L2 f2) := Lib.hid ((NI.get_any hS.out.nd b HI.out.2).mono fun e w' q => ⟨q.1, hS.out.no q.2⟩)
        have hml : ∀ ty, (Builtin.len_ #[43] ty #[.map (some mb)]).run Try.prog w4 = .ok (.int .i64 (L2.length : Int)) w4 := fun ty => hS.out.mp.len Try.underlying43 ty
        obtain ⟨x2, hx2⟩ : ∃ x, (getC L2 b).getD 0 = x := ⟨_, rfl⟩
        obtain ⟨s2, hs2⟩ : ∃ s, (getC L2 b).isSome = s := ⟨_, rfl⟩
        have HL5 : Hid (∀ W, KiS w W a mb k2 L2 f2 → (Instr.lookup 43 (.map (some mb)) (.int .u8 (b : Int)) true).run Try.prog W = .ok (.tuple #[.int .i64 x2, .bool s2]) W) := Lib.hid fun W h => by rw [← hx2, ← hs2]; exact h.look b HI.out.2
        rw [hx2, hs2] at CG
        rw [hn2] at hml CL hok
        clear hx2 hs2 hn2 hP1 hP2 HLK HSET HDEL c0
        have hnk := hok.le
        have h16 := hok.a
        have h48 := hok.b
        have h256 := hok.c
        clear hok
        rcases hkd with e | e | e | e
        all_goals subst e
        all_goals simp at h16 h48 h256
        all_goals (have q1 : ¬ ((4 : Int) < (n2 : Int)) ∨ True := .inr trivial; clear q1)
        · have q1 : ¬ ((4 : Int) < (n2 : Int)) := by omega
          have q2 : ¬ ((n2 : Int) < 0) := by omega
          clear hnk
          go_wp2_with (first | (go_at_call 21; (with_reducible refine CK.out.mono ?_); rintro e w5 ⟨rfl, hw⟩; replace hw := hw.symm; subst hw) | (go_at_call 20; (with_reducible refine CL.out.mono ?_); rintro e w5 ⟨rfl, hw⟩; replace hw := hw.symm; subst hw) | (go_at_call 18; (with_reducible refine CG.out.mono ?_); rintro e w5 ⟨rfl, h5⟩; have hl5 := HL5.out _ h5; replace h5 := Lib.hid h5))
          exact ⟨⟨i + 1, _, L2, f2, by have := HI.out.1; omega, by go_num, h5⟩, by have := HI.out.1; simp [RowKit.intOf]; omega⟩
        · have q1 : ¬ ((16 : Int) < (n2 : Int)) := by omega
          have q2 : ¬ ((n2 : Int) < 4) := by omega
          clear hnk
          go_wp2_with (first | (go_at_call 21; (with_reducible refine CK.out.mono ?_); rintro e w5 ⟨rfl, hw⟩; replace hw := hw.symm; subst hw) | (go_at_call 20; (with_reducible refine CL.out.mono ?_); rintro e w5 ⟨rfl, hw⟩; replace hw := hw.symm; subst hw) | (go_at_call 18; (with_reducible refine CG.out.mono ?_); rintro e w5 ⟨rfl, h5⟩; have hl5 := HL5.out _ h5; replace h5 := Lib.hid h5))
          exact ⟨⟨i + 1, _, L2, f2, by have := HI.out.1; omega, by go_num, h5⟩, by have := HI.out.1; simp [RowKit.intOf]; omega⟩
        · have q1 : ¬ ((48 : Int) < (n2 : Int)) := by omega
          have q2 : ¬ ((n2 : Int) < 13) := by omega
          clear hnk
          go_wp2_with (first | (go_at_call 21; (with_reducible refine CK.out.mono ?_); rintro e w5 ⟨rfl, hw⟩; replace hw := hw.symm; subst hw) | (go_at_call 20; (with_reducible refine CL.out.mono ?_); rintro e w5 ⟨rfl, hw⟩; replace hw := hw.symm; subst hw) | (go_at_call 18; (with_reducible refine CG.out.mono ?_); rintro e w5 ⟨rfl, h5⟩; have hl5 := HL5.out _ h5; replace h5 := Lib.hid h5))
          exact ⟨⟨i + 1, _, L2, f2, by have := HI.out.1; omega, by go_num, h5⟩, by have := HI.out.1; simp [RowKit.intOf]; omega⟩
        · have q1 : ¬ ((256 : Int) < (n2 : Int)) := by omega
          have q2 : ¬ ((n2 : Int) < 37) := by omega
          clear hnk
          go_wp2_with (first | (go_at_call 21; (with_reducible refine CK.out.mono ?_); rintro e w5 ⟨rfl, hw⟩; replace hw := hw.symm; subst hw) | (go_at_call 20; (with_reducible refine CL.out.mono ?_); rintro e w5 ⟨rfl, hw⟩; replace hw := hw.symm; subst hw) | (go_at_call 18; (with_reducible refine CG.out.mono ?_); rintro e w5 ⟨rfl, h5⟩; have hl5 := HL5.out _ h5; replace h5 := Lib.hid h5))
          exact ⟨⟨i + 1, _, L2, f2, by have := HI.out.1; omega, by go_num, h5⟩, by have := HI.out.1; simp [RowKit.intOf]; omega⟩
    · have hnl : ¬ ((i : Int) < (len : Int)) := by omega
      go_wp2_with (go_at_call 8; (with_reducible refine (CW.out _).mono ?_); rintro e w5 ⟨rfl, ht⟩; replace ht := Lib.hid ht)
      go_ret
      exact ⟨rfl, (HP.out.tu.trans ht.out).below (Nat.le_refl _) (fun _ _ h => h)⟩
end Go.Proofs.Ytijlcehjlacihaa
