/-
  The list's drop, from.
-/
import Derived.Test.YtijlcehjlacihaaLjS
namespace Go.Proofs.Ytijlcehjlacihaa
open Go.RowKit Go.Lib
set_option linter.unusedVariables false
set_option maxRecDepth 20000
set_option linter.unusedSimpArgs false

namespace NS

section
variable {w : World} {Z : Dom} {t : TypeId} {g : Nat} {L : List (Nat × ByteArray)} {A B : Option Addr} {ca cb : Nat}
set_option maxHeartbeats 2000000 in
theorem ldrop_any (h : Lst w Z t g L A B ca cb) (hn : L.length ≤ 1000) (b : Nat) (y : ByteArray) (hg : getC L b = some y) :
    Calls Try.prog 84 #[.pointer (some ⟨g, 0, none⟩), .int .u8 (b : Int)] w fun e w' => e = .returned (.tuple #[]) ∧ LstE w' Z t g (delC L b) ∧ Tz Z w w' := by
  have HB := Lib.hid (bs_no L h.asc A ca b w (row_of_own h.bs) (by omega))
  have HL := Lib.hid h
  have HT := Lib.hid h.t1
  have c0 := (at2 h.at_).1
  rw [hg] at HB
  obtain ⟨ga, hA, _⟩ := delB h.asc hg h.bs
  obtain ⟨gb, hB, _⟩ := delT h.asc hg h.xs
  have CD := Lib.hid fun (W : World) (T : Turn No w W) => (by
    obtain ⟨ga', hA', hc⟩ := delB h.asc hg (own_grown h.bs T fun _ _ h => h)
    rw [hA] at hA'
    injection hA' with hA'
    injection hA' with hA'
    subst hA'
    exact hc : Calls Try.prog 68 #[.slice A L.length ca, .int .i64 ((lowC L b).length : Int), .int .i64 ((lowC L b).length + 1 : Int)] W fun e w' => e = .returned (.slice A (delC L b).length ca) ∧
      w'.ownsRow Z 5 1 (.slice A (delC L b).length ca) (delC L b).length (bcs (ksC (delC L b))) ∧ Turn (fun k => k = ga) W w')
  have CT := Lib.hid fun (W : World) (ho : W.ownsRow Z 9 1 (.slice B L.length cb) L.length (tcs (vsC L))) => (by
    obtain ⟨gb', hB', hc⟩ := delT h.asc hg ho
    rw [hB] at hB'
    injection hB' with hB'
    injection hB' with hB'
    subst hB'
    exact hc : Calls Try.prog 89 #[.slice B L.length cb, .int .i64 ((lowC L b).length : Int), .int .i64 ((lowC L b).length + 1 : Int)] W fun e w' => e = .returned (.slice B (delC L b).length cb) ∧
      w'.ownsRow Z 9 1 (.slice B (delC L b).length cb) (delC L b).length (tcs (vsC (delC L b))) ∧ Turn (fun k => k = gb) W w')
  have HA := Lib.hid (show ablk A = some ga by rw [hA]; rfl)
  have HBB := Lib.hid (show ablk B = some gb by rw [hB]; rfl)
  have hi := (low_lt h.asc hg).1
  clear h hg hA hB
  obtain ⟨n, hnn⟩ : ∃ n, L.length = n := ⟨_, rfl⟩
  rw [hnn] at c0 HB CD CT hi
  have HN := Lib.hid hnn
  clear hnn
  obtain ⟨i, hii⟩ : ∃ i, (lowC L b).length = i := ⟨_, rfl⟩
  rw [hii] at HB CD CT hi
  clear hii
  obtain ⟨m, hm⟩ : ∃ m, (delC L b).length = m := ⟨_, rfl⟩
  rw [hm] at CD CT
  have HM := Lib.hid hm
  clear hm
  have HI := Lib.hid (And.intro hi hn)
  have hw : IntKind.i64.wrap ((i : Int) + 1) = (i : Int) + 1 := IntWalk.i64_in _ ⟨by have := HN.out; omega, by have := HN.out; omega⟩
  clear hi hn
  have HS1 : Hid (∀ W, Turn No w W → W.cell? ⟨g, 0, none⟩ = some (.slice A n ca)) := Lib.hid fun W T => cell_no T c0
  have HS2 : Hid (∀ (W W2 : World), Turn No w W → Turn (fun k => k = ga) W W2 → At W2 g (.cells #[.slice A n ca, .slice B n cb] t (0, 0)) ∧ W2.ownsRow Z 9 1 (.slice B n cb) n (tcs (vsC L)) ∧ Tz Z w W2) := Lib.hid fun W W2 T T2 => by
    have hat := (HL.out.at_.no T).turn T2 fun e => ablk_ne HL.out.bs HL.out.at_ HT.out.2.1 (by rw [e]; exact HA.out)
    have hx := row_keep (own_grown HL.out.xs T fun _ _ h => h) T2 fun k hk e => row_ne HL.out.bs HL.out.xs (by decide) (by rw [e]; exact HA.out) hk
    rw [HN.out] at hat hx
    exact ⟨hat, hx, (Tz.no T).trans (Tz.of T2 fun k _ hk => own_mine (own_grown HL.out.bs T fun _ _ h => h) (by decide) (by rw [hk]; exact HA.out))⟩
  go_enter Try.func84, Try.ntmps84
  go_upto_region 2 with (first
    | (go_at_call 67; (with_reducible refine HB.out.mono ?_); rintro e w1 ⟨rfl, ht⟩; have d0 := HS1.out w1 ht; have CI1 := Lib.hid (CD.out w1 ht); replace ht := Lib.hid ht)
    | (go_at_call 68; (with_reducible refine CI1.out.mono ?_); rintro e w2 ⟨rfl, ho, h2⟩; have H2 := Lib.hid (And.intro ho (HS2.out w1 w2 ht.out h2)); clear ho h2; obtain ⟨k0, _, f0, _⟩ := at2 H2.out.2.1))
  have H3 : Hid (At (w2.setCell ⟨g, 0, none⟩ (.slice A m ca)) g (.cells #[.slice A m ca, .slice B n cb] t (0, 0)) ∧
      (w2.setCell ⟨g, 0, none⟩ (.slice A m ca)).ownsRow Z 5 1 (.slice A m ca) m (bcs (ksC (delC L b))) ∧
      (w2.setCell ⟨g, 0, none⟩ (.slice A m ca)).ownsRow Z 9 1 (.slice B n cb) n (tcs (vsC L)) ∧ Tz Z w (w2.setCell ⟨g, 0, none⟩ (.slice A m ca))) := Lib.hid (by
    obtain ⟨h1, h2, h3, h4⟩ := H2.out
    have T := Turn.set1 w2 g 0 (.slice A m ca)
    refine ⟨by simpa using h2.set 0 (.slice A m ca), row_keep h1 T fun k hk e => ablk_ne h1 h2 HT.out.2.1 (e ▸ hk), row_keep h3 T fun k hk e => ablk_ne h3 h2 HT.out.2.2 (e ▸ hk), h4.trans (Tz.of T fun k _ hk => by subst hk; exact At.mine h2 HL.out.zg HT.out.1)⟩)
  generalize w2.setCell ⟨g, 0, none⟩ (.slice A m ca) = w3 at H3 ⊢
  clear H2 f0 k0 CI1 HS1 HS2 d0 c0 HB CD
  obtain ⟨_, d1, _, _⟩ := at2 H3.out.1
  have CT3 := Lib.hid (CT.out w3 H3.out.2.2.1)
  clear CT
  have HS4 : Hid (∀ (W2 : World), Turn (fun k => k = gb) w3 W2 → At W2 g (.cells #[.slice A m ca, .slice B n cb] t (0, 0)) ∧ W2.ownsRow Z 5 1 (.slice A m ca) m (bcs (ksC (delC L b))) ∧ Tz Z w W2) := Lib.hid fun W2 T2 => by
    obtain ⟨h1, h2, h3, h4⟩ := H3.out
    exact ⟨h1.turn T2 fun e => ablk_ne h3 h1 HT.out.2.2 (by rw [e]; exact HBB.out), row_keep h2 T2 fun k hk e => row_ne h2 h3 (by decide) hk (by rw [e]; exact HBB.out), h4.trans (Tz.of T2 fun k _ hk => own_mine h3 (by decide) (by rw [hk]; exact HBB.out))⟩
  go_wp2_with (go_at_call 89; (with_reducible refine CT3.out.mono ?_); rintro e w4 ⟨rfl, ho, h2⟩; have H4 := Lib.hid (And.intro ho (HS4.out w4 h2)); clear ho h2; obtain ⟨_, k1, _, f1⟩ := at2 H4.out.2.1)
  go_end0
  obtain ⟨h1, h2, h3, h4⟩ := H4.out
  have T := Turn.set1 w4 g 1 (.slice B m cb)
  refine ⟨rfl, ⟨A, B, ca, cb, asc_del HL.out.asc b, byt_del HL.out.byt b, HL.out.zg, HL.out.ty, ?_, ?_, ?_⟩, h4.trans (Tz.of T fun k _ hk => by subst hk; exact At.mine h2 HL.out.zg HT.out.1)⟩
  · rw [HM.out]
    simpa using h2.set 1 (.slice B m cb)
  · rw [HM.out]
    exact row_keep h3 T fun k hk e => ablk_ne h3 h2 HT.out.2.1 (e ▸ hk)
  · rw [HM.out]
    exact row_keep h1 T fun k hk e => ablk_ne h1 h2 HT.out.2.2 (e ▸ hk)
set_option maxHeartbeats 2000000 in
theorem lfrom_any (h : Lst w Z t g L A B ca cb) (hn : L.length ≤ 1000) (b : Nat) :
    Calls Try.prog 85 #[.pointer (some ⟨g, 0, none⟩), .int .i64 (b : Int)] w fun e w' => e = .returned (fromV (nxtC L b)) ∧ Turn No w w' := by
  have HL := Lib.hid h
  obtain ⟨c0, c1, _, _⟩ := at2 h.at_
  clear h
  have HN := Lib.hid hn
  have HC := Lib.hid c1
  clear hn c1
  obtain ⟨n, hnn⟩ : ∃ n, L.length = n := ⟨_, rfl⟩
  rw [hnn] at c0 HC HN
  have hn1 : n ≤ 1000 := HN.out
  have HNN := Lib.hid hnn
  clear hnn
  go_enter Try.func85, Try.ntmps85
  go_wp2_with fail
  go_loopw [14, 5] (fun a z wr => ∃ i : Nat, i ≤ n ∧ a = .int .i64 (i : Int) ∧ z = Value.string ⟨#[]⟩ ∧ wr = w ∧ Lows (L.take i) b) (fun a _ _ => n - (RowKit.intOf a).toNat)
  case atStart => exact ⟨0, Nat.zero_le _, rfl, rfl, rfl, fun p hp => by simp at hp⟩
  case round =>
    obtain ⟨i, hi, rfl, rfl, rfl, HP⟩ := hrel
    replace HP := Lib.hid HP
    by_cases hlt : i < n
    · obtain ⟨p, hp⟩ : ∃ t, L[i]? = some t := ⟨_, List.getElem?_eq_getElem (by have := HNN.out; omega)⟩
      obtain ⟨o1, q1, hA, k1⟩ := bcs_get (row_of_own HL.out.bs) (ks_get hp)
      obtain ⟨o2, q2, hB, k2⟩ := vcs_at (row_of_own HL.out.xs) hp
      subst hA hB
      have HX := Lib.hid hp
      clear hp
      obtain ⟨c, y⟩ := p
      simp only at k1 k2
      have hcc := HL.out.byt (c, y) (List.mem_iff_getElem?.2 ⟨i, HX.out⟩)
      simp only at hcc
      have hwc : wrap64 (c : Int) = (c : Int) := by simp only [wrap64]; omega
      by_cases hge : b ≤ c
      · have HR : Hid (nxtC L b = some (c, y)) := Lib.hid (by
          have e : L = L.take i ++ (c, y) :: L.drop (i + 1) := by
            obtain ⟨h1, h2⟩ := List.getElem?_eq_some_iff.1 HX.out
            rw [← h2, List.getElem_cons_drop, List.take_append_drop]
          have := nxt_mid (X := L.take i) (Y := L.drop (i + 1)) (p := (c, y)) HP.out hge
          rw [← e] at this
          exact this)
        have C1 := HC.out
        have hi1 : (0 : Int) ≤ (i : Int) := by omega
        have hi2 : (i : Int) < (n : Int) := by omega
        go_wp2_with fail
        go_quiet (fail)
        all_goals go_wp2_with fail
        all_goals go_ret3
        all_goals exact ⟨by rw [HR.out]; rfl, by first | exact (Turn.refl _ _).drewN _ | exact (Turn.refl _ _).drew | exact Turn.refl _ _⟩
      · have HE : Hid (Lows (L.take (i + 1)) b) := Lib.hid (by
          rw [List.take_add_one, HX.out]
          intro q hq
          rcases List.mem_append.1 hq with hq | hq
          · exact HP.out q hq
          · simp at hq
            rw [hq]
            show c < b
            omega)
        go_wp2_with fail
        exact ⟨⟨i + 1, by omega, by go_num, by first | exact ⟨rfl, rfl, HE.out⟩ | exact ⟨trivial, HE.out⟩ | exact ⟨rfl, trivial, HE.out⟩⟩, by simp [RowKit.intOf]; omega⟩
    · obtain rfl : i = n := by omega
      have HR : Hid (nxtC L b = none) := Lib.hid (by
        have := HP.out
        rw [List.take_of_length_le (by rw [HNN.out]; exact Nat.le_refl _)] at this
        exact nxt_end this)
      go_wp2_with fail
      go_ret3
      exact ⟨by rw [HR.out]; rfl, Turn.refl _ _⟩
end
end NS
end Go.Proofs.Ytijlcehjlacihaa
