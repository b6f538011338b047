/-
  The law LinearChecks: Check, Witness and After are the document's.
-/
import Derived.Test.YtllppkfeiifklaaJ39
import Derived.Test.YtllppkfeiifklaaJ30
import Derived.Test.YtllppkfeiifklaaJ40
import Derived.Test.YtllppkfeiifklaaJ42
import Derived.Test.YtllppkfeiifklaaJ28
import Derived.Test.YtllppkfeiifklaaJ16
namespace Go.Proofs.Ytllppkfeiifklaa
open Go.RowKit Go.Lib
set_option linter.unusedVariables false
set_option maxRecDepth 20000
set_option linter.unusedSimpArgs false

/-- The two witnesses, side by side. -/
def Pair (w : World) (l : List Ev) (ps : List (List Wr)) (L L2 : List Opx) (B B2 : Option Addr) : Prop :=
  L2.length = L.length ∧ ∀ i, i < L.length → ∃ ok k v o had aft A1 A2 len c1 c2 ws, L[i]? = some ⟨ok, k, v, o, had, aft, A1, len, c1⟩ ∧ L2[i]? = some ⟨ok, k, v, o, had, aft, A2, len, c2⟩ ∧ ws.length = len ∧ len ≤ 100000 ∧ Row w A1 (wcs ws) ∧ Row w A2 (wcs ws)
theorem pair_of {w wr : World} {l : List Ev} {ps : List (List Wr)} {L L2 : List Opx} {B B2 : Option Addr} {c : Nat} (hr : Rws wr l ps) (hf : FewE l ps) (h : Os w wr l ps L B c) (h1 : (Right l ∧ L.length = (wit l).length) ∨ (¬ Right l ∧ L = [])) (h2 : (Right l ∧ L2 = dW l (marks l).length) ∨ (¬ Right l ∧ L2 = [])) : Pair wr l ps L L2 B B2 := by
  have hml : (marks l).length = (wit l).length := by rw [marks_wit, List.length_map]
  rcases h1 with ⟨hR, hL⟩ | ⟨hR, rfl⟩
  · rcases h2 with ⟨_, rfl⟩ | ⟨hn, _⟩
    · refine ⟨by rw [dW_len (Nat.le_refl _), hml, hL], fun i hi => ?_⟩
      obtain ⟨t, ht⟩ : ∃ t, (wit l)[i]? = some t := ⟨(wit l)[i]'(by omega), List.getElem?_eq_getElem _⟩
      obtain ⟨x, hx⟩ : ∃ x, L[i]? = some x := ⟨L[i], List.getElem?_eq_getElem hi⟩
      obtain ⟨a1, a2, a3⟩ := h.ops i x t hx ht
      have hy : (dW l (marks l).length)[i]? = some (stP l t.id) := by
        unfold dW
        rw [List.take_of_length_le (Nat.le_refl _), marks_wit, List.map_map, List.getElem?_map, ht]
        rfl
      have hrow := stP_row hr t.id
      have hpu := stP_pure l t.id
      have hn := (hf.st hr.len t.id).n
      generalize stP l t.id = y at hy hrow hpu
      rw [← hpu] at a1
      obtain ⟨xk, x1, x2, x3, x4, x5, xA, xl, xc⟩ := x
      obtain ⟨yk, y1, y2, y3, y4, y5, yA, yl, yc⟩ := y
      unfold Opx.pure at a1
      injection a1 with b0 b1 b2 b3 b4 b5 _ b6
      simp only at b0 b1 b2 b3 b4 b5 b6 a2 a3
      subst b0 b1 b2 b3 b4 b5 b6
      exact ⟨_, _, _, _, _, _, _, _, _, _, _, stW l ps t.id, hx, hy, a2.symm, by omega, row_of_own a3, hrow.1⟩
    · exact absurd hR hn
  · rcases h2 with ⟨h, _⟩ | ⟨_, rfl⟩
    · exact absurd h hR
    · exact ⟨rfl, fun i hi => by simp at hi⟩
theorem Pair.no {w w2 : World} {l : List Ev} {ps : List (List Wr)} {L L2 : List Opx} {B B2 : Option Addr} (h : Pair w l ps L L2 B B2) (t : Turn No w w2) : Pair w2 l ps L L2 B B2 := ⟨h.1, fun i hi => by
  obtain ⟨ok, k, v, o, had, aft, A1, A2, len, c1, c2, ws, a1, a2, a3, a4, a5, a6⟩ := h.2 i hi
  exact ⟨ok, k, v, o, had, aft, A1, A2, len, c1, c2, ws, a1, a2, a3, a4, a5.no t, a6.no t⟩⟩
set_option maxRecDepth 100000 in
set_option maxHeartbeats 16000000 in
theorem lchecks_law (S : List Pr) (A : Option Addr) (cap : Nat) (l : List Ev) (ps : List (List Wr)) (B : Option Addr) (cap2 : Nat) (w : World) (hS : InP w A S.length cap S) (hE : Inq w B l.length cap2 l ps) :
    Calls Try.prog 3 #[.slice A S.length cap, .slice B l.length cap2] w fun e w' => e = .returned (.bool true) ∧ Turn No w w' := by
  have C9 := Lib.hid (great8_any S A cap l ps B cap2 w hS hE)
  have HS := Lib.hid (And.intro hS hE)
  have CW := Lib.hid fun (W : World) => wakes_any W
  clear hS hE
  go_enter Try.func3, Try.ntmps3
  go_upto_if 14 with (go_at_call 9; refine C9.out.mono ?_; rintro e w1 ⟨⟨bg, rfl, hg⟩, ht⟩; have H1 := Lib.hid (And.intro hg ht); clear hg ht)
  clear C9
  obtain ⟨br, hbr⟩ : ∃ x, x = bg := ⟨_, rfl⟩
  subst hbr
  cases br with
  | true =>
    go_wp2_with (go_at_call 10; refine (CW.out _).mono ?_; rintro e w2 ⟨rfl, ht⟩; have H2 := Lib.hid ht; clear ht)
    go_ret
    exact ⟨rfl, H1.out.2.trans H2.out⟩
  | false =>
    have hfew : S.length ≤ 100 ∧ FewE l ps := by first | exact H1.out.1 rfl | exact H1.out.1 trivial
    have HIN : Hid (InE w B cap2 l ps) := Lib.hid (HS.out.2.inE hfew.2)
    have hn := hfew.1
    have IPN : Hid (∀ W, Turn No w W → InP W A S.length cap S) := Lib.hid fun W t => ⟨HS.out.1.hlen, HS.out.1.hmax, HS.out.1.row.no t, HS.out.1.fit, HS.out.1.nil⟩
    have T1 := Lib.hid H1.out.2
    have C11 := Lib.hid fun (W : World) (t : Turn No w W) => lcheck_any S A cap l ps B cap2 W (IPN.out W t) hn (HIN.out.no t)
    have C12 := Lib.hid fun (W : World) (t : Turn No w W) => rlcheck_any S A cap l ps B cap2 W (IPN.out W t) hn (HIN.out.no t)
    have C13 := Lib.hid fun (W : World) (t : Turn No w W) => lwitness_any l ps B cap2 W (HIN.out.no t)
    have C14 := Lib.hid fun (W : World) (t : Turn No w W) => rlwitness_any l ps B cap2 W (HIN.out.no t)
    have C17 := Lib.hid fun (W : World) (t : Turn No w W) => lafter_any S A cap l ps B cap2 W (IPN.out W t) hn (HIN.out.no t)
    have C18 := Lib.hid fun (W : World) (t : Turn No w W) => rlafter_any S A cap l ps B cap2 W (IPN.out W t) hn (HIN.out.no t)
    clear hfew H1
    go_upto_region 4 with (go_at_call 11; (with_reducible refine (C11.out _ T1.out).mono ?_); rintro e w2 ⟨⟨a, c, rfl, hl⟩, ht⟩; have HL := Lib.hid hl; have T2 := Lib.hid (T1.out.trans ht); clear hl ht)
    clear C11
    obtain ⟨a1, ha1⟩ : ∃ x, x = a := ⟨_, rfl⟩
    subst ha1
    obtain ⟨c1, hc1⟩ : ∃ x, x = c := ⟨_, rfl⟩
    subst hc1
    go_upto_region 5 with (go_at_call 12; (with_reducible refine (C12.out _ T2.out).mono ?_); rintro e w3 ⟨⟨a2, c2, rfl, hl⟩, ht⟩; obtain ⟨hu1, hu2⟩ := HL.out.uniq hl; subst hu1; subst hu2; have T3 := Lib.hid (T2.out.trans ht); clear hl ht)
    clear C12 HL
    go_upto_region 6 with (go_at_call 13; (with_reducible refine (C13.out _ T3.out).mono ?_); rintro e w4 ⟨L, BL, cL, rfl, ho, hd⟩; have HO := Lib.hid (And.intro ho hd); have T4 := Lib.hid (T3.out.trans ho.tu); clear ho hd)
    clear C13
    go_upto_region 7 with (go_at_call 14; (with_reducible refine (C14.out _ T4.out).mono ?_); rintro e w5 ⟨L2, BM, cM, rfl, ho, hd⟩; have HO2 := Lib.hid (And.intro ho hd); have T5 := Lib.hid (T4.out.trans ho.tu); clear ho hd)
    clear C14
    have hpair : Pair w5 l ps L L2 BL BM := pair_of (HIN.out.no T5.out).rws HIN.out.few (HO.out.1.no HO2.out.1.tu) HO.out.2 HO2.out.2
    have HP := Lib.hid hpair
    have hl2 := hpair.1
    rw [hl2]
    have HRO : Hid (Row w5 BL (ocs L) ∧ Row w5 BM (ocs L2)) := Lib.hid ⟨row_of_own (own_grown HO.out.1.row HO2.out.1.tu (fun _ _ h => h)), row_of_own HO2.out.1.row⟩
    have hLb : L.length ≤ 200 := by
      have h1 := HIN.out.few.len
      have h2 := witF_length l l.length
      rcases HO.out.2 with ⟨_, h⟩ | ⟨_, h⟩
      · rw [h]; unfold wit; omega
      · rw [h]; simp
    clear hpair hl2 HO HO2
    go_wp2_with fail
    go_loopw [11] (fun x wr => ∃ i : Nat, i ≤ L.length ∧ x = .int .i64 (i : Int) ∧ Hid (Turn No w wr ∧ Turn No w5 wr)) (fun x _ => L.length - (RowKit.intOf x).toNat)
    case atStart => exact ⟨0, Nat.zero_le _, rfl, Lib.hid ⟨T5.out, Turn.refl _ _⟩⟩
    case round =>
      obtain ⟨i, hi, rfl, HQ⟩ := hrel
      by_cases hlt : i < L.length
      · obtain ⟨ok, k, v, o, had, aft, A1, A2, len, d1, d2, ws, g1, g2, g3, g4, g5, g6⟩ := (HP.out.no HQ.out.2).2 i hlt
        obtain ⟨b1, o1, hB1, hb1, hx1⟩ := (HRO.out.1.no HQ.out.2).opx g1
        obtain ⟨b2, o2, hB2, hb2, hx2⟩ := (HRO.out.2.no HQ.out.2).opx g2
        have hS1 : Hid (∀ W, Turn No wr W → W.cell? ⟨b1, o1 + i * 7, none⟩ = some (.int .u8 ok) ∧ W.cell? ⟨b1, o1 + i * 7 + 1, none⟩ = some (.string k) ∧ W.cell? ⟨b1, o1 + i * 7 + 2, none⟩ = some (.string v) ∧ W.cell? ⟨b1, o1 + i * 7 + 3, none⟩ = some (.string o) ∧ W.cell? ⟨b1, o1 + i * 7 + 4, none⟩ = some (.bool had) ∧ W.cell? ⟨b1, o1 + i * 7 + 5, none⟩ = some (.bool aft) ∧ W.cell? ⟨b1, o1 + i * 7 + 6, none⟩ = some (.slice A1 len d1) ∧ W.cell? ⟨b2, o2 + i * 7, none⟩ = some (.int .u8 ok) ∧ W.cell? ⟨b2, o2 + i * 7 + 1, none⟩ = some (.string k) ∧ W.cell? ⟨b2, o2 + i * 7 + 2, none⟩ = some (.string v) ∧ W.cell? ⟨b2, o2 + i * 7 + 3, none⟩ = some (.string o) ∧ W.cell? ⟨b2, o2 + i * 7 + 4, none⟩ = some (.bool had) ∧ W.cell? ⟨b2, o2 + i * 7 + 5, none⟩ = some (.bool aft) ∧ W.cell? ⟨b2, o2 + i * 7 + 6, none⟩ = some (.slice A2 len d2)) := Lib.hid fun W t => by
          have f1 : ∀ q u, q < 7 → (Opx.cs ⟨ok, k, v, o, had, aft, A1, len, d1⟩)[q]? = some u → W.cell? ⟨b1, o1 + i * 7 + q, none⟩ = some u := fun q u hq hu => (World.cell?_of_block (w := wr) (t.block b1 hb1 (fun h => h))).trans (hx1 q u hq hu)
          have f2 : ∀ q u, q < 7 → (Opx.cs ⟨ok, k, v, o, had, aft, A2, len, d2⟩)[q]? = some u → W.cell? ⟨b2, o2 + i * 7 + q, none⟩ = some u := fun q u hq hu => (World.cell?_of_block (w := wr) (t.block b2 hb2 (fun h => h))).trans (hx2 q u hq hu)
          exact ⟨f1 0 _ (by decide) rfl, f1 1 _ (by decide) rfl, f1 2 _ (by decide) rfl, f1 3 _ (by decide) rfl, f1 4 _ (by decide) rfl, f1 5 _ (by decide) rfl, f1 6 _ (by decide) rfl, f2 0 _ (by decide) rfl, f2 1 _ (by decide) rfl, f2 2 _ (by decide) rfl, f2 3 _ (by decide) rfl, f2 4 _ (by decide) rfl, f2 5 _ (by decide) rfl, f2 6 _ (by decide) rfl⟩
        have td : Turn No wr wr.drew := (Turn.refl _ _).drew
        have C15 := Lib.hid (sameop_any ok k v o had aft A1 A2 len d1 d2 ws g3 g4 wr.drew (g5.no td) (g6.no td))
        have hS0 := hS1.out _ td
        subst hB1 hB2
        clear td g1 g2 g3 g4 g5 g6 hx1 hx2 hb1 hb2
        have hq1 : (0 : Int) ≤ (i : Int) := by omega
        have hq2 : (i : Int) < (L.length : Int) := by omega
        go_upto_region 12 with fail
        go_cut [62] from 53 to 62 (fun s wx => s = .bool false ∧ Hid (Turn No wr wx))
        case first =>
          go_region_held3 (fun W => W.cell? ⟨b1, o1 + i * 7, none⟩ = some (.int .u8 ok) ∧ W.cell? ⟨b1, o1 + i * 7 + 1, none⟩ = some (.string k) ∧ W.cell? ⟨b1, o1 + i * 7 + 2, none⟩ = some (.string v) ∧ W.cell? ⟨b1, o1 + i * 7 + 3, none⟩ = some (.string o) ∧ W.cell? ⟨b1, o1 + i * 7 + 4, none⟩ = some (.bool had) ∧ W.cell? ⟨b1, o1 + i * 7 + 5, none⟩ = some (.bool aft) ∧ W.cell? ⟨b1, o1 + i * 7 + 6, none⟩ = some (.slice A1 len d1) ∧ W.cell? ⟨b2, o2 + i * 7, none⟩ = some (.int .u8 ok) ∧ W.cell? ⟨b2, o2 + i * 7 + 1, none⟩ = some (.string k) ∧ W.cell? ⟨b2, o2 + i * 7 + 2, none⟩ = some (.string v) ∧ W.cell? ⟨b2, o2 + i * 7 + 3, none⟩ = some (.string o) ∧ W.cell? ⟨b2, o2 + i * 7 + 4, none⟩ = some (.bool had) ∧ W.cell? ⟨b2, o2 + i * 7 + 5, none⟩ = some (.bool aft) ∧ W.cell? ⟨b2, o2 + i * 7 + 6, none⟩ = some (.slice A2 len d2)) (first | (with_reducible exact hS0) | (with_reducible exact hS1.out _ hy.out)) (first | (go_at_call 15; (with_reducible refine C15.out.mono ?_); rintro e wy ⟨rfl, hy⟩; replace hy := Lib.hid (drew_or hy)))
          go_wp2_with fail
          go_meet
          exact ⟨rfl, hy⟩
        case rest =>
          obtain ⟨rfl, hy⟩ := hcut
          generalize wc = wy at hy ⊢
          clear hS0 hS1 C15
          go_wp2_with fail
          exact ⟨⟨i + 1, by omega, by go_num, Lib.hid ⟨HQ.out.1.trans hy.out, HQ.out.2.trans hy.out⟩⟩, by simp [RowKit.intOf]; omega⟩
      · obtain rfl : i = L.length := by omega
        have T6 := Lib.hid HQ.out.1
        clear HQ
        go_wp2_with (first
          | (go_at_call 17; (with_reducible refine (C17.out _ T6.out).mono ?_); rintro e w7 ⟨X, BX, cX, rfl, hr7, ht, hd⟩; have H7 := Lib.hid (And.intro hr7 hd); have T7 := Lib.hid (T6.out.trans ht); clear hr7 ht hd)
          | (go_at_call 18; (with_reducible refine (C18.out _ T7.out).mono ?_); rintro e w8 ⟨Y, BY, cY, rfl, hr8, ht, hd⟩; have HXY : Hid (Y = X) := Lib.hid (by
              rcases hd with ⟨h1, h2⟩ | ⟨h1, h2⟩
              · rcases H7.out.2 with ⟨_, h4⟩ | ⟨h3, _⟩
                · rw [h2, h4]
                · exact absurd h1 h3
              · rcases H7.out.2 with ⟨h3, _⟩ | ⟨_, h4⟩
                · exact absurd h3 h1
                · rw [h2, h4])
             have hxl : X.length ≤ 100000 := by
               rcases H7.out.2 with ⟨_, h4⟩ | ⟨_, h4⟩
               · have h5 := lnM_len HIN.out.few HIN.out.rws.len (news S) l.length (Nat.le_refl _)
                 have h6 := news_few hn
                 have h7 := HIN.out.few.len
                 rw [h4]; omega
               · rw [h4]; simp
             have C16 : Hid (Calls Try.prog 16 #[.slice BX X.length cX, .slice BY Y.length cY] w8 fun e w' => e = .returned (.bool true) ∧ Turn No w8 w') := Lib.hid ((same_any BX cX X BY cY Y w8 (H7.out.1.no ht) hr8 hxl).mono (by
               rintro e w' ⟨rfl, h⟩
               rw [decide_eq_true HXY.out.symm]
               exact ⟨rfl, h⟩))
             have T8 := Lib.hid (T7.out.trans ht); clear hr8 ht hd hxl)
          | (go_at_call 16; (with_reducible refine C16.out.mono ?_); rintro e w9 ⟨rfl, ht⟩; have T9 := Lib.hid (T8.out.trans ht); clear ht)
          | (go_at_call 10; refine (CW.out _).mono ?_; rintro e w10 ⟨rfl, ht⟩; have T10 := Lib.hid (T9.out.trans ht); clear ht))
        go_ret
        exact ⟨rfl, T10.out⟩
end Go.Proofs.Ytllppkfeiifklaa
