/-
  The law LinearSome: whether there is any row is the document's.
-/
import Derived.Test.YtllppkfeiifklaaWDro
import Derived.Test.YtllppkfeiifklaaJ38
import Derived.Test.YtllppkfeiifklaaJ39
import Derived.Test.YtllppkfeiifklaaJ28
namespace Go.Proofs.Ytllppkfeiifklaa
open Go.RowKit Go.Lib
set_option linter.unusedVariables false
set_option maxRecDepth 20000
set_option linter.unusedSimpArgs false

/-- The program's answer is the document's. -/
theorem some_iff {l : List Ev} {ps : List (List Wr)} {S : List Pr} : SomeP l ps S ↔ Right l ∧ (begs l).length ≤ 7 ∧ DR l ps (begs l) (news S) [] := by
  unfold SomeP
  constructor
  · rintro ⟨hr, h7, hp⟩
    refine ⟨hr, h7, dr_of_pr hr (named_self l ps _) hp _ _ (Nv.init (asc_news S)) fun k id _ => ?_⟩
    rw [Nat.zero_testBit]
    simp
  · rintro ⟨hr, h7, hp⟩
    refine ⟨hr, h7, pr_of_dr hr (named_self l ps _) hp _ _ (Nv.init (asc_news S)) fun k id _ => ?_⟩
    rw [Nat.zero_testBit]
    simp
set_option maxRecDepth 100000 in
set_option maxHeartbeats 16000000 in
theorem rsome_any (S : List Pr) (A : Option Addr) (cap : Nat) (l : List Ev) (ps : List (List Wr)) (B : Option Addr) (cap2 : Nat) (w : World) (hS : InP w A S.length cap S) (hn : S.length ≤ 100) (hE : InE w B cap2 l ps) :
    Calls Try.prog 20 #[.slice A S.length cap, .slice B l.length cap2] w fun e w' => SRes l ps S w e w' := by
  have hll : l.length ≤ 200 := hE.few.len
  have C32 := Lib.hid (refcheck_any l B cap2 w hE.row (by omega) hE.cap)
  have HR := Lib.hid (And.intro hS hE)
  have HN := Lib.hid hn
  clear hS hE
  go_enter Try.func20, Try.ntmps20
  go_upto_region 2 with (go_at_call 32; refine C32.out.mono ?_; rintro e w1 ⟨at_, code, rfl, hc, ht⟩; have H1 := Lib.hid (And.intro hc ht); clear hc ht)
  clear C32
  have C48 := Lib.hid (ids_any l B cap2 w1 (HR.out.2.row.no H1.out.2) (by omega))
  obtain ⟨I, hI⟩ : ∃ I, begs l = I := ⟨_, rfl⟩
  have HI := Lib.hid hI
  rw [hI] at C48
  clear hI
  go_upto_region 3 with (go_at_call 48; refine C48.out.mono ?_; rintro e w2 ⟨Bi, ci, rfl, hi⟩; have H2 := Lib.hid (And.intro hi (H1.out.2.trans hi.tu)); clear hi)
  clear C48
  by_cases hz : code = 0
  · subst hz
    have HRT : Hid (Right l) := Lib.hid (by
      rcases H1.out.1 with ⟨h, _⟩ | ⟨n, _, _, h⟩
      · exact h
      · cases h)
    by_cases h7 : I.length ≤ 7
    · have hq7 : decide ((7 : Int) < (I.length : Int)) = false := decide_eq_false (by omega)
      have HI7 := Lib.hid h7
      have C33 := Lib.hid (rnew_any S A cap w2 (HR.out.1.row.no H2.out.2) (by omega))
      have CRW : Hid (∀ W, Turn No w2 W → ∀ B0 c0, W.ownsRow w2.heap.size 47 2 (.slice B0 (newR S).length c0) (newR S).length (pcs (newR S)) → Calls Try.prog 49 #[.agg #[.slice B0 (newR S).length c0], .slice B l.length cap2, .slice Bi I.length ci, .slice none 0 0] W fun e w' => ∃ b, e = .returned (.bool b) ∧ (b = true ↔ SomeP l ps S) ∧ Turn No w w') := Lib.hid fun W t B0 c0 ho => by
        have tw := H2.out.2.trans t
        have hcn : cntL I [] ≤ 7 := Nat.le_trans (List.length_filter_le ..) HI7.out
        have := rows_any (l := l) (ps := ps) (B := B) (cap2 := cap2) (I := I) (Bi := Bi) (ci := ci) HI7.out 7 (newR S) (news S) B0 c0 [] none 0 W hcn (HR.out.2.no tw) ((row_of_own H2.out.1.row).no t) (ho.mono (Nat.zero_le _)) (new_sim S) (asc_news S) (fun p hp => HR.out.1.fit p (news_sub p hp)) (by have := news_few HN.out; omega) (fun j u hj => by simp [ics] at hj) (by simp)
        refine this.mono fun e w' h => ?_
        obtain ⟨b, h1, h2, h3⟩ := h
        refine ⟨b, h1, h2.trans ?_, tw.trans h3⟩
        rw [some_iff, HI.out]
        exact ⟨fun h => ⟨HRT.out, HI7.out, h⟩, fun h => h.2.2⟩
      clear h7 H1
      go_wp2_with (first | (go_at_call 33; (with_reducible refine C33.out.mono ?_); rintro e w3 ⟨B0, c0, rfl, ho, ht⟩; have HO := Lib.hid ho; have T3 := Lib.hid ht; clear ho ht) | (go_at_call 49; (with_reducible refine (CRW.out _ T3.out _ _ HO.out).mono ?_); rintro e w4 ⟨bt, rfl, hiff, ht⟩; have HF := Lib.hid (And.intro hiff ht); clear hiff ht))
      go_ret
      exact SRes.of bt rfl HF.out.1 HF.out.2
    · have hq7 : decide ((7 : Int) < (I.length : Int)) = true := decide_eq_true (by omega)
      have HNO : Hid (¬ SomeP l ps S) := Lib.hid fun h => by have := h.2.1; rw [HI.out] at this; exact h7 this
      clear h7
      go_wp2_with fail
      go_ret
      exact SRes.of false rfl ⟨fun h => by (cases h), fun h => absurd h HNO.out⟩ H2.out.2
  · have hz1 : (code == 0) = false := by simpa using hz
    have hz2 : (code != 0) = true := by simpa using hz
    have HNO : Hid (¬ SomeP l ps S) := Lib.hid fun h => hz ((H1.out.1.of_right h.1).2)
    clear hz
    go_wp2_with fail
    go_ret
    exact SRes.of false rfl ⟨fun h => by (cases h), fun h => absurd h HNO.out⟩ H2.out.2
set_option maxRecDepth 100000 in
set_option maxHeartbeats 16000000 in
theorem lsome_law (S : List Pr) (A : Option Addr) (cap : Nat) (l : List Ev) (ps : List (List Wr)) (B : Option Addr) (cap2 : Nat) (w : World) (hS : InP w A S.length cap S) (hE : Inq w B l.length cap2 l ps) :
    Calls Try.prog 4 #[.slice A S.length cap, .slice B l.length cap2] w fun e w' => e = .returned (.bool true) ∧ Turn No w w' := by
  have C9 := Lib.hid (great8_any S A cap l ps B cap2 w hS hE)
  have HS := Lib.hid (And.intro hS hE)
  have CW := Lib.hid fun (W : World) => wakes_any W
  clear hS hE
  go_enter Try.func4, Try.ntmps4
  by_cases hq : l.length ≤ 60
  · have hgt : decide ((60 : Int) < (l.length : Int)) = false := decide_eq_false (by omega)
    go_upto_if 12 with (go_at_call 9; refine C9.out.mono ?_; rintro e w1 ⟨⟨(_ | _), rfl, hg⟩, ht⟩ <;> have H1 := Lib.hid (And.intro hg ht) <;> clear hg ht)
    · clear C9
      have hfew : S.length ≤ 100 ∧ FewE l ps := by first | exact H1.out.1 rfl | exact H1.out.1 trivial
      have HIN : Hid (InE w B cap2 l ps) := Lib.hid (HS.out.2.inE hfew.2)
      have hn := hfew.1
      have IPN : Hid (∀ W, Turn No w W → InP W A S.length cap S) := Lib.hid fun W t => ⟨HS.out.1.hlen, HS.out.1.hmax, HS.out.1.row.no t, HS.out.1.fit, HS.out.1.nil⟩
      have T1 := Lib.hid H1.out.2
      have C19 := Lib.hid fun (W : World) (t : Turn No w W) => some_any S A cap l ps B cap2 W (IPN.out W t) hn (HIN.out.no t)
      have C20 := Lib.hid fun (W : World) (t : Turn No w W) => rsome_any S A cap l ps B cap2 W (IPN.out W t) hn (HIN.out.no t)
      clear hfew H1 hgt
      go_wp2_with (first
        | (go_at_call 19; (with_reducible refine (C19.out _ T1.out).mono ?_); rintro e w2 ⟨b1, rfl, hf, ht⟩; have HF := Lib.hid hf; have T2 := Lib.hid (T1.out.trans ht); clear hf ht)
        | (go_at_call 20; (with_reducible refine (C20.out _ T2.out).mono ?_); rintro e w3 ⟨b2, rfl, hf, ht⟩; have hbb : b2 = b1 := Bool.eq_iff_iff.2 (hf.trans HF.out.symm); subst hbb; have T3 := Lib.hid (T2.out.trans ht); clear hf ht)
        | (go_at_call 10; refine (CW.out _).mono ?_; rintro e w4 ⟨rfl, ht⟩; have T4 := Lib.hid (T3.out.trans ht); clear ht))
      go_ret
      exact ⟨rfl, T4.out⟩
    · go_wp2_with (go_at_call 10; refine (CW.out _).mono ?_; rintro e w2 ⟨rfl, ht⟩; have H2 := Lib.hid ht; clear ht)
      go_ret
      exact ⟨rfl, H1.out.2.trans H2.out⟩
  · have hgt : decide ((60 : Int) < (l.length : Int)) = true := decide_eq_true (by omega)
    go_upto_if 12 with (go_at_call 9; refine C9.out.mono ?_; rintro e w1 ⟨⟨(_ | _), rfl, hg⟩, ht⟩ <;> have H1 := Lib.hid (And.intro hg ht) <;> clear hg ht)
    · go_wp2_with (go_at_call 10; refine (CW.out _).mono ?_; rintro e w2 ⟨rfl, ht⟩; have H2 := Lib.hid ht; clear ht)
      go_ret
      exact ⟨rfl, H1.out.2.trans H2.out⟩
    · go_wp2_with (go_at_call 10; refine (CW.out _).mono ?_; rintro e w2 ⟨rfl, ht⟩; have H2 := Lib.hid ht; clear ht)
      go_ret
      exact ⟨rfl, H1.out.2.trans H2.out⟩
end Go.Proofs.Ytllppkfeiifklaa
