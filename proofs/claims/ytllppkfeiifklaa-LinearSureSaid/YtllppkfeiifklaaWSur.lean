/-
  The law LinearSure: what Check finds right Some finds right, and each beginning of a right row is right.
-/
import Derived.Test.YtllppkfeiifklaaPrl
import Derived.Test.YtllppkfeiifklaaJ39
import Derived.Test.YtllppkfeiifklaaJ38
namespace Go.Proofs.Ytllppkfeiifklaa
open Go.RowKit Go.Lib
set_option linter.unusedVariables false
set_option maxRecDepth 20000
set_option linter.unusedSimpArgs false

/-- What Check finds right Some finds right. -/
theorem some_lin {l : List Ev} {ps : List (List Wr)} {S : List Pr} (hr : Right l) (hu : Upto l ps (news S) l.length) (h7 : (begs l).length ≤ 7) : SomeP l ps S := by
  refine ⟨hr, h7, pr_lin hr hu (named_self l ps _) l.length 0 (by omega) _ _ ?_ fun k id _ => ?_⟩
  · exact Nv.init (asc_news S)
  · rw [Nat.zero_testBit]
    constructor
    · intro h; cases h
    · rintro ⟨i, _, h, _⟩; omega
theorem InE.take {w : World} {B : Option Addr} {cap : Nat} {l : List Ev} {ps : List (List Wr)} (h : InE w B cap l ps) (n : Nat) : InE w B cap (l.take n) (ps.take n) := by
  refine ⟨h.row.take n, ⟨by rw [List.length_take, List.length_take, h.rws.len], fun j e ws he hw => ?_⟩, fun e he => h.ids e (List.mem_of_mem_take he), ?_, ⟨?_, fun j e ws he hw => ?_⟩⟩
  · rw [List.getElem?_take] at he hw
    split at he
    · rename_i hj
      rw [if_pos hj] at hw
      exact h.rws.get j e ws he hw
    · cases he
  · rw [List.length_take]; have := h.cap; omega
  · rw [List.length_take]; have := h.few.len; omega
  · rw [List.getElem?_take] at he hw
    split at he
    · rename_i hj
      rw [if_pos hj] at hw
      exact h.few.op j e ws he hw
    · cases he
theorem lin_zero {l : List Ev} {ps : List (List Wr)} {M : List Pr} {a : Int} (h : LinC l ps M a 0) : Right l ∧ Upto l ps M l.length := by
  rcases h with ⟨_, h⟩ | ⟨hr, h⟩
  · exact absurd rfl h
  · rcases h with ⟨_, _, hu⟩ | ⟨_, _, _, h0, _⟩
    · exact ⟨hr, hu⟩
    · cases h0
theorem begs_take (l : List Ev) : begs (l.take l.length) = begs l := by rw [List.take_length]
set_option maxRecDepth 100000 in
set_option maxHeartbeats 16000000 in
theorem lsure_law (S : List Pr) (A : Option Addr) (cap : Nat) (l : List Ev) (ps : List (List Wr)) (B : Option Addr) (cap2 : Nat) (w : World) (hS : InP w A S.length cap S) (hE : Inq w B l.length cap2 l ps) :
    Calls Try.prog 5 #[.slice A S.length cap, .slice B l.length cap2] w fun e w' => e = .returned (.bool true) ∧ Turn No w w' := by
  have C9 := Lib.hid (great8_any S A cap l ps B cap2 w hS hE)
  have HS := Lib.hid (And.intro hS hE)
  have CW := Lib.hid fun (W : World) => wakes_any W
  clear hS hE
  go_enter Try.func5, Try.ntmps5
  by_cases hq : l.length ≤ 60
  · have hgt : decide ((60 : Int) < (l.length : Int)) = false := decide_eq_false (by omega)
    go_upto_if 18 with (go_at_call 9; refine C9.out.mono ?_; rintro e w1 ⟨⟨(_ | _), rfl, hg⟩, ht⟩ <;> have H1 := Lib.hid (And.intro hg ht) <;> clear hg ht)
    · clear C9
      have hfew : S.length ≤ 100 ∧ FewE l ps := by first | exact H1.out.1 rfl | exact H1.out.1 trivial
      have HIN : Hid (InE w B cap2 l ps) := Lib.hid (HS.out.2.inE hfew.2)
      have hn := hfew.1
      have IPN : Hid (∀ W, Turn No w W → InP W A S.length cap S) := Lib.hid fun W t => ⟨HS.out.1.hlen, HS.out.1.hmax, HS.out.1.row.no t, HS.out.1.fit, HS.out.1.nil⟩
      have T1 := Lib.hid H1.out.2
      have C11 := Lib.hid (lcheck_any S A cap l ps B cap2 w1 (IPN.out w1 T1.out) hn (HIN.out.no T1.out))
      have HCAP := HIN.out.cap
      have HN := Lib.hid hn
      clear hfew H1 hn hgt
      go_upto_if 27 with (go_at_call 11; (with_reducible refine (C11.out).mono ?_); rintro e w2 ⟨⟨a, c, rfl, hl⟩, ht⟩; have HL := Lib.hid hl; have T2 := Lib.hid (T1.out.trans ht); clear hl ht)
      clear C11 T1
      by_cases hz : c = 0
      · subst hz
        have HR := Lib.hid (lin_zero HL.out)
        clear HL
        rw [show ((0 : Int) != 0) = false from rfl]
        go_wp2_with fail
        go_loopw [7, 8] (fun s x wr => ∃ n : Nat, n ≤ l.length ∧ x = .int .i64 (n : Int) ∧ s = .int .i64 ((begs (l.take n)).length : Int) ∧ Hid (Turn No w wr)) (fun _ x _ => l.length - (RowKit.intOf x).toNat)
        case atStart => exact ⟨0, Nat.zero_le _, rfl, rfl, T2⟩
        case round =>
          obtain ⟨n, hm, rfl, rfl, HP⟩ := hrel
          clear T2
          by_cases hlt : n < l.length
          · obtain ⟨e, he⟩ : ∃ e, l[n]? = some e := ⟨l[n], List.getElem?_eq_getElem hlt⟩
            have hin := HIN.out.no HP.out
            obtain ⟨b, off, hA, hb, hx⟩ := hin.row.ev he
            have x0 := hx 0 _ rfl
            have HLT : Hid (LinC (l.take n) (ps.take n) (news S) (-1) 0) := Lib.hid (.inr ⟨HR.out.1.take n, Lin.take HR.out.1 (a := -1) (.inl ⟨rfl, rfl, HR.out.2⟩) hm⟩)
            have CT := Lib.hid (lcheck_any S A cap (l.take n) (ps.take n) B cap2 wr (IPN.out wr HP.out) HN.out (hin.take n))
            have hln : (l.take n).length = n := by rw [List.length_take]; omega
            rw [hln] at CT
            have hbl : (begs (l.take n)).length ≤ n := Nat.le_trans (begs_length _) (by omega)
            have HBY : Hid (e.kind = 1 → begs (l.take (n + 1)) = begs (l.take n) ++ [e.id]) := Lib.hid fun h => begs_yes he h
            have HBN : Hid (¬ e.kind = 1 → begs (l.take (n + 1)) = begs (l.take n)) := Lib.hid fun h => begs_no he h
            obtain ⟨ek, eid, eo, ea⟩ := e
            obtain ⟨bn, hbn⟩ : ∃ x, (begs (l.take n)).length = x := ⟨_, rfl⟩
            have HBE := Lib.hid hbn
            rw [hbn] at hbl
            rw [hbn]
            simp only [Nat.add_zero] at x0 HBY HBN
            subst hA
            clear hin hx hb he hln hbn
            have hq1 : (0 : Int) ≤ (n : Int) := by omega
            have hq2 : (n : Int) < (l.length : Int) := by omega
            have hq3 : (n : Int) ≤ (cap2 : Int) := by omega
            by_cases hk : ek = 1
            · subst hk
              have HBG : Hid ((begs (l.take (n + 1))).length = bn + 1) := Lib.hid (by rw [HBY.out rfl, List.length_append, HBE.out]; rfl)
              clear HBY HBN
              go_upto_region 12 with fail
              go_upto_region 13 with (go_at_call 11; (with_reducible refine (CT.out).mono ?_); rintro e w4 ⟨⟨a2, c2, rfl, hl2⟩, ht⟩; obtain ⟨hu1, hu2⟩ := HLT.out.uniq hl2; subst hu1; subst hu2; have T4 := Lib.hid (HP.out.trans ht); clear hl2 ht)
              clear CT
              go_wp2_with fail
              exact ⟨⟨n + 1, by omega, by go_num, by first | (rw [HBG.out]; done) | (rw [HBG.out]; first | rfl | go_num), Lib.hid T4.out⟩, by simp [RowKit.intOf]; omega⟩
            · have k1 : (ek == 1) = false := by simpa using hk
              have HBG : Hid ((begs (l.take (n + 1))).length = bn) := Lib.hid (by rw [HBN.out hk, HBE.out])
              clear HBY HBN hk
              go_upto_region 12 with fail
              go_upto_region 13 with (go_at_call 11; (with_reducible refine (CT.out).mono ?_); rintro e w4 ⟨⟨a2, c2, rfl, hl2⟩, ht⟩; obtain ⟨hu1, hu2⟩ := HLT.out.uniq hl2; subst hu1; subst hu2; have T4 := Lib.hid (HP.out.trans ht); clear hl2 ht)
              clear CT
              go_wp2_with fail
              exact ⟨⟨n + 1, by omega, by go_num, by first | (rw [HBG.out]; done) | (rw [HBG.out]; first | rfl | go_num), Lib.hid T4.out⟩, by simp [RowKit.intOf]; omega⟩
          · obtain rfl : n = l.length := by omega
            have HBT : Hid ((begs (l.take l.length)).length = (begs l).length) := Lib.hid (by rw [List.take_length])
            rw [HBT.out]
            by_cases h7 : (begs l).length ≤ 7
            · have hg7 : decide ((7 : Int) < ((begs l).length : Int)) = false := decide_eq_false (by omega)
              have HSP := Lib.hid (some_lin (S := S) HR.out.1 HR.out.2 h7)
              have C19 := Lib.hid (some_any S A cap l ps B cap2 wr (IPN.out wr HP.out) HN.out (HIN.out.no HP.out))
              clear h7
              go_wp2_with (first | (go_at_call 19; (with_reducible refine (C19.out).mono ?_); rintro e w5 ⟨bs, rfl, hiff, ht⟩; obtain rfl : bs = true := hiff.2 HSP.out; have T5 := Lib.hid (HP.out.trans ht); clear hiff ht) | (go_at_call 10; refine (CW.out _).mono ?_; rintro e w2 ⟨rfl, ht⟩; have H2 := Lib.hid ht; clear ht))
              go_ret
              exact ⟨rfl, T5.out.trans H2.out⟩
            · have hg7 : decide ((7 : Int) < ((begs l).length : Int)) = true := decide_eq_true (by omega)
              clear h7
              go_wp2_with (go_at_call 10; refine (CW.out _).mono ?_; rintro e w2 ⟨rfl, ht⟩; have H2 := Lib.hid ht; clear ht)
              go_ret
              exact ⟨rfl, HP.out.trans H2.out⟩
      · have hz1 : (c == 0) = false := by simpa using hz
        have hz2 : (c != 0) = true := by simpa using hz
        clear hz
        go_wp2_with (go_at_call 10; refine (CW.out _).mono ?_; rintro e w2 ⟨rfl, ht⟩; have H2 := Lib.hid ht; clear ht)
        go_ret
        exact ⟨rfl, T2.out.trans H2.out⟩
    · go_wp2_with (go_at_call 10; refine (CW.out _).mono ?_; rintro e w2 ⟨rfl, ht⟩; have H2 := Lib.hid ht; clear ht)
      go_ret
      exact ⟨rfl, H1.out.2.trans H2.out⟩
  · have hgt : decide ((60 : Int) < (l.length : Int)) = true := decide_eq_true (by omega)
    go_upto_if 18 with (go_at_call 9; refine C9.out.mono ?_; rintro e w1 ⟨⟨(_ | _), rfl, hg⟩, ht⟩ <;> have H1 := Lib.hid (And.intro hg ht) <;> clear hg ht)
    · go_wp2_with (go_at_call 10; refine (CW.out _).mono ?_; rintro e w2 ⟨rfl, ht⟩; have H2 := Lib.hid ht; clear ht)
      go_ret
      exact ⟨rfl, H1.out.2.trans H2.out⟩
    · go_wp2_with (go_at_call 10; refine (CW.out _).mono ?_; rintro e w2 ⟨rfl, ht⟩; have H2 := Lib.hid ht; clear ht)
      go_ret
      exact ⟨rfl, H1.out.2.trans H2.out⟩
end Go.Proofs.Ytllppkfeiifklaa
