/-
  Some's closure: can a row be gone on with?
-/
import Derived.Test.YtllppkfeiifklaaJ36
import Derived.Test.YtllppkfeiifklaaJ34
import Derived.Test.YtllppkfeiifklaaJ35
import Derived.Test.YtllppkfeiifklaaJ32
namespace Go.Proofs.Ytllppkfeiifklaa
open Go.RowKit Go.Lib
set_option linter.unusedVariables false
set_option maxRecDepth 20000
set_option linter.unusedSimpArgs false

/-- What the closure reads: what is needed, the calls, itself. -/
structure Tb (Z : Nat) (w : World) (l : List Ev) (ps : List (List Wr)) (J : List Int) (C : List Cl) (B : Option Addr) (c gn gc gt : Nat) : Prop where
  need : At w gn (.cells #[.int .u8 ((endB l J J.length : Nat) : Int)] 72 (0, 0))
  cbx : At w gc (.cells #[.slice B C.length c] 70 (0, 0))
  tbx : At w gt (.cells #[.func (.func 44) #[] #[.pointer (some ⟨gn, 0, none⟩), .pointer (some ⟨gc, 0, none⟩), .pointer (some ⟨gt, 0, none⟩)]] 74 (0, 0))
  cs : Cs Z w l ps J (ahdF l J) C B c
theorem Tb.no {Z : Nat} {w w2 : World} {l : List Ev} {ps : List (List Wr)} {J : List Int} {C : List Cl} {B : Option Addr} {c gn gc gt : Nat} (h : Tb Z w l ps J C B c gn gc gt) (t : Turn No w w2) : Tb Z w2 l ps J C B c gn gc gt := ⟨h.need.no t, h.cbx.no t, h.tbx.no t, h.cs.no t⟩
/-- What the closure answers. -/
def TRes (l : List Ev) (ps : List (List Wr)) (J : List Int) (M : List Pr) (d : Nat) (w : World) (e : Ending) (w' : World) : Prop := ∃ b, e = .returned (.bool b) ∧ (b = true ↔ PR l ps J M d) ∧ Turn No w w'
theorem TRes.of {l : List Ev} {ps : List (List Wr)} {J : List Int} {M : List Pr} {d : Nat} {w w' : World} {e : Ending} (b : Bool) (h1 : e = .returned (.bool b)) (h2 : b = true ↔ PR l ps J M d) (h3 : Turn No w w') : TRes l ps J M d w e w' := ⟨b, h1, h2, h3⟩
theorem FitL.opc {M : List Pr} (h : FitL M) {l : List Ev} {ps : List (List Wr)} (hf : FewE l ps) (hl : ps.length = l.length) (id : Int) : FitL (opD M (stO l id) (stW l ps id)) := h.op (hf.st hl id)
set_option maxRecDepth 100000 in
set_option maxHeartbeats 32000000 in
theorem try_any {Z : Nat} {l : List Ev} {ps : List (List Wr)} {J : List Int} {C : List Cl} {B : Option Addr} {c gn gc gt : Nat} (hj : J.length ≤ 7) (hf : FewE l ps) (hps : ps.length = l.length) : ∀ (N : Nat) (P : List Pr) (Bp : Option Addr) (cp d : Nat) (w : World), lft d J.length ≤ N → Tb Z w l ps J C B c gn gc gt → Row w Bp (pcs P) → (Bp = none → cp = 0) → FitL P → P.length + 41 * lft d J.length ≤ 20000 → d < 2 ^ J.length →
    Calls Try.prog 44 #[.slice Bp P.length cp, .int .u8 (d : Int), .pointer (some ⟨gn, 0, none⟩), .pointer (some ⟨gc, 0, none⟩), .pointer (some ⟨gt, 0, none⟩)] w fun e w' => TRes l ps J (news P) d w e w'
  | N, P, Bp, cp, d, w, hN, hT, hR, hcp, hfit, hlen, hd => by
    have HIH : Hid (∀ N2, N2 < N → ∀ (P : List Pr) (Bp : Option Addr) (cp d : Nat) (w : World), lft d J.length ≤ N2 → Tb Z w l ps J C B c gn gc gt → Row w Bp (pcs P) → (Bp = none → cp = 0) → FitL P → P.length + 41 * lft d J.length ≤ 20000 → d < 2 ^ J.length →
      Calls Try.prog 44 #[.slice Bp P.length cp, .int .u8 (d : Int), .pointer (some ⟨gn, 0, none⟩), .pointer (some ⟨gc, 0, none⟩), .pointer (some ⟨gt, 0, none⟩)] w fun e w' => TRes l ps J (news P) d w e w') := Lib.hid fun N2 hN2 => try_any hj hf hps N2
    have HC := Lib.hid (And.intro hT (And.intro hR (And.intro hcp (And.intro hfit (And.intro hlen (And.intro hd hN))))))
    have HF := Lib.hid (And.intro hf hps)
    have h27 : 2 ^ J.length ≤ 2 ^ 7 := Nat.pow_le_pow_right (by decide) hj
    have H27 := Lib.hid h27
    have hd8 : d < 256 := by omega
    have he8 : endB l J J.length < 256 := by have := endB_lt l J J.length; omega
    have C45 := Lib.hid fun W => has_any d (endB l J J.length) hd8 he8 W
    have HLN := Lib.hid hT.cs.len
    have n0 := hT.need.cell 0
    have c0 := hT.cbx.cell 0
    simp at n0 c0
    rw [hT.cs.len] at c0
    obtain ⟨E, hE⟩ : ∃ E, endB l J J.length = E := ⟨_, rfl⟩
    have HEE := Lib.hid hE
    rw [hE] at C45 n0
    clear hf hps h27 he8 hE hT hR hcp hfit hlen hd hN
    go_enter Try.func44, Try.ntmps44
    by_cases hdn : d &&& E = E
    · have HD := Lib.hid hdn
      rw [decide_eq_true hdn] at C45
      clear hdn
      go_wp2_with (go_at_call 45; (with_reducible refine (C45.out _).mono ?_); rintro e wz ⟨rfl, hw⟩; replace hw := hw.symm; subst hw)
      go_ret
      exact TRes.of true rfl ⟨fun _ => .done (by rw [HEE.out]; exact HD.out), fun _ => rfl⟩ (Turn.refl _ _)
    · have HD := Lib.hid hdn
      rw [decide_eq_false hdn] at C45
      clear hdn
      go_wp2_with (go_at_call 45; (with_reducible refine (C45.out _).mono ?_); rintro e wz ⟨rfl, hw⟩; replace hw := hw.symm; subst hw)
      clear C45 n0 c0
      go_loopw [17] (fun i wr => ∃ kk : Nat, kk ≤ J.length ∧ i = .int .i64 (kk : Int) ∧ Hid (Turn No w wr ∧ ∀ k, k < kk → ¬ StepOk l ps J (news P) d k)) (fun i _ => J.length - (RowKit.intOf i).toNat)
      case atStart => exact ⟨0, Nat.zero_le _, rfl, Lib.hid ⟨Turn.refl _ _, fun k hk => by omega⟩⟩
      case round =>
        obtain ⟨kk, hm, rfl, HP⟩ := hrel
        by_cases hlt : kk < J.length
        · obtain ⟨x, hx⟩ : ∃ e, C[kk]? = some e := ⟨C[kk]'(by rw [HLN.out]; exact hlt), List.getElem?_eq_getElem _⟩
          obtain ⟨id, hi⟩ : ∃ e, J[kk]? = some e := ⟨J[kk], List.getElem?_eq_getElem hlt⟩
          have HTW := Lib.hid (HC.out.1.no HP.out.1)
          obtain ⟨b, off, hA, hbz, hr⟩ := HTW.out.cs.cl hx
          have hgg := HTW.out.cs.get kk x id hx hi
          have hpu := hgg.2.1
          have hws := hgg.2.2.1
          have how := (HC.out.1.cs.get kk x id hx hi).2.2.2.1
          have hen := hgg.2.2.2.2.1
          have han := hgg.2.2.2.2.2.1
          have hah := hgg.2.2.2.2.2.2
          have hfw := HF.out.1.st HF.out.2 id
          have tn : Turn No wr (wr.alloc (.cells x.cs.toArray 77)) := (Turn.refl _ _).alloc _
          have HN : Hid (Turn No w (wr.alloc (.cells x.cs.toArray 77)) ∧ At (wr.alloc (.cells x.cs.toArray 77)) wr.heap.size (.cells x.cs.toArray 77 (0, 0))) := Lib.hid ⟨HP.out.1.trans tn, At.new _ _⟩
          have HJI := Lib.hid hi
          have ha8 : x.ah < 256 := by rw [hah]; have h1 := ahdF_lt l J kk; have := H27.out; omega
          have HAH := Lib.hid hah
          have HEN := Lib.hid hen
          have HAN := Lib.hid han
          obtain ⟨p, hp⟩ : ∃ p, 2 ^ kk = p := ⟨_, rfl⟩
          have hp8 : p < 256 := by rw [← hp]; have h2 : 2 ^ kk ≤ 2 ^ 7 := Nat.pow_le_pow_right (by decide) (by omega); omega
          have CO := Lib.hid fun W => only_any kk (by omega) W
          rw [hp] at CO
          have HPP := Lib.hid hp
          have C451 := Lib.hid fun W => has_any d p hd8 hp8 W
          have C452 := Lib.hid fun W => has_any d x.ah hd8 ha8 W
          have HOP : Hid (∀ M, opA M (stO l id) (stW l ps id) = opA M x.op (stW l ps id) ∧ opD M (stO l id) (stW l ps id) = opD M x.op (stW l ps id)) := Lib.hid fun M => by rw [← hpu]; exact ⟨rfl, rfl⟩
          rw [← hpu] at hfw
          obtain ⟨ws, hwe⟩ : ∃ ws, stW l ps id = ws := ⟨_, rfl⟩
          rw [hwe] at hws how hfw HOP
          have HWE := Lib.hid hwe
          clear hpu hwe hgg hbz tn hx hi hen han hah hp
          obtain ⟨xid, ⟨ok, k, v, o, had, aft, A0, len, cap0⟩, en, ⟨code, found, ak, av⟩, ah⟩ := x
          simp only at hws how hfw HEN HAN HAH HOP C452 ha8
          subst hws
          have HOW := Lib.hid (And.intro how hfw)
          have hr1 : wr.rangeAt b (off + kk * 14) [.int .i64 xid, .int .u8 ok, .string k, .string v, .string o, .bool had, .bool aft, .slice A0 ws.length cap0, .bool en, .int .i64 code, .bool found, .string ak, .string av, .int .u8 ah] := hr
          simp only [Cl.cs, Opx.cs, Ans.cs, List.cons_append, List.nil_append] at HN
          have c0 := HTW.out.cbx.cell 0
          simp at c0
          subst hA
          clear hr how hfw
          go_upto_region 6 with (refine wpList_load_mid rfl 77 _ rfl b (off + kk * 14) rfl [.int .i64 xid, .int .u8 ok, .string k, .string v, .string o, .bool had, .bool aft, .slice A0 ws.length cap0, .bool en, .int .i64 code, .bool found, .string ak, .string av, .int .u8 ah] _ hr1 Try.underlying77 rfl info77 ?_)
          clear hr1 c0
          generalize wr.alloc (.cells #[.int .i64 xid, .int .u8 ok, .string k, .string v, .string o, .bool had, .bool aft, .slice A0 ws.length cap0, .bool en, .int .i64 code, .bool found, .string ak, .string av, .int .u8 ah] 77) = w6 at HN ⊢
          generalize wr.heap.size = g at HN ⊢
          have y13 := HN.out.2.cell 13
          simp at y13
          by_cases hhk : d &&& p = p
          · rw [decide_eq_true hhk] at C451
            have HNS : Hid (∀ k, k < kk + 1 → ¬ StepOk l ps J (news P) d k) := Lib.hid fun q hq hs => by
              by_cases hqk : q = kk
              · subst hqk
                obtain ⟨_, _, h2, _⟩ := hs
                exact h2 (by rw [HPP.out]; exact hhk)
              · exact HP.out.2 q (by omega) hs
            clear hhk
            go_wp2_with (first | (go_at_call 46; (with_reducible refine (CO.out _).mono ?_); rintro e wz ⟨rfl, hw⟩; replace hw := hw.symm; subst hw) | (go_at_call 45; (with_reducible refine (C451.out _).mono ?_); rintro e wz ⟨rfl, hw⟩; replace hw := hw.symm; subst hw))
            exact ⟨⟨kk + 1, by omega, by go_num, Lib.hid ⟨HN.out.1, HNS.out⟩⟩, by simp [RowKit.intOf]; omega⟩
          · rw [decide_eq_false hhk] at C451
            have HHK := Lib.hid hhk
            clear hhk
            by_cases hfr : d &&& ah = ah
            · rw [decide_eq_true hfr] at C452
              have HFR := Lib.hid hfr
              clear hfr
              go_upto_region 7 with (first | (go_at_call 46; (with_reducible refine (CO.out _).mono ?_); rintro e wz ⟨rfl, hw⟩; replace hw := hw.symm; subst hw) | (go_at_call 45; (with_reducible refine (C451.out _).mono ?_); rintro e wz ⟨rfl, hw⟩; replace hw := hw.symm; subst hw) | (go_at_call 45; (with_reducible refine (C452.out _).mono ?_); rintro e wz ⟨rfl, hw⟩; replace hw := hw.symm; subst hw))
              have C28 := Lib.hid (new_any P Bp cp w6 HN.out.1.size (HC.out.2.1.no HN.out.1) HC.out.2.2.1 HC.out.2.2.2.1 (by have := HC.out.2.2.2.2.1; omega))
              go_upto_region 8 with (go_at_call 28; refine C28.out.mono ?_; rintro e w7 ⟨m, rb, rfl, hom, hm1, hm2, ht⟩; have H7 := Lib.hid (And.intro hom (And.intro ht (And.intro (HN.out.1.trans ht) (HN.out.2.no ht)))); clear hom hm1 hm2 ht)
              clear C28 C451 C452 y13
              have hnl : (news P).length ≤ 20000 := by have := news_length P; have := HC.out.2.2.2.2.1; omega
              have e1 := H7.out.2.2.2.cell 1
              have e2 := H7.out.2.2.2.cell 2
              have e3 := H7.out.2.2.2.cell 3
              have e4 := H7.out.2.2.2.cell 4
              have e5 := H7.out.2.2.2.cell 5
              have e6 := H7.out.2.2.2.cell 6
              have e7 := H7.out.2.2.2.cell 7
              simp at e1 e2 e3 e4 e5 e6 e7
              have hso : So w w7 m (some rb) (news P) := ⟨H7.out.1, H7.out.2.2.1⟩
              have CD := Lib.hid (om_do hso.a hso.tu ok k v o had aft A0 cap0 ws (row_of_own HOW.out.1) HOW.out.2 (by omega) (a := opA (news P) ⟨ok, k, v, o, had, aft, A0, ws.length, cap0⟩ ws) rfl (l2 := opD (news P) ⟨ok, k, v, o, had, aft, A0, ws.length, cap0⟩ ws) rfl)
              have hM2 := opD_len (news P) ⟨ok, k, v, o, had, aft, A0, ws.length, cap0⟩ HOW.out.2.n
              have hF2 : FitL (opD (news P) ⟨ok, k, v, o, had, aft, A0, ws.length, cap0⟩ ws) := FitL.op (fun q hq => HC.out.2.2.2.1 q (news_sub q hq)) HOW.out.2
              have hA2 : Asc (opD (news P) ⟨ok, k, v, o, had, aft, A0, ws.length, cap0⟩ ws) := asc_doM (asc_news P) _ _ _ _ _ _ _
              have hll := lft_lt (d := d) (k := kk) (by rw [← Bool.not_eq_true, ← bit_iff, HPP.out]; exact HHK.out) J.length hlt
              rw [HPP.out] at hll
              have HST : Hid ((stN l id = 3 → opA (news P) ⟨ok, k, v, o, had, aft, A0, ws.length, cap0⟩ ws = stA l id) → PR l ps J (opD (news P) ⟨ok, k, v, o, had, aft, A0, ws.length, cap0⟩ ws) (d ||| p) → StepOk l ps J (news P) d kk) := Lib.hid fun h1 h2 => ⟨id, HJI.out, by rw [HPP.out]; exact HHK.out, by rw [← HAH.out]; exact HFR.out, by rw [HWE.out, (HOP.out (news P)).1]; exact h1, by rw [HWE.out, (HOP.out (news P)).2, HPP.out]; exact h2⟩
              have HSN : Hid (StepOk l ps J (news P) d kk → (stN l id = 3 → opA (news P) ⟨ok, k, v, o, had, aft, A0, ws.length, cap0⟩ ws = stA l id) ∧ PR l ps J (opD (news P) ⟨ok, k, v, o, had, aft, A0, ws.length, cap0⟩ ws) (d ||| p)) := Lib.hid fun hs => by
                obtain ⟨id2, g1, g2, g3, g4, g5⟩ := hs
                rw [HJI.out] at g1
                injection g1 with g1
                subst g1
                rw [HWE.out, (HOP.out (news P)).1] at g4
                rw [HWE.out, (HOP.out (news P)).2, HPP.out] at g5
                exact ⟨g4, g5⟩
              obtain ⟨a, ha⟩ : ∃ x, opA (news P) ⟨ok, k, v, o, had, aft, A0, ws.length, cap0⟩ ws = x := ⟨_, rfl⟩
              obtain ⟨M2, hM2e⟩ : ∃ x, opD (news P) ⟨ok, k, v, o, had, aft, A0, ws.length, cap0⟩ ws = x := ⟨_, rfl⟩
              rw [ha, hM2e] at CD HST HSN
              rw [hM2e] at hM2 hF2 hA2
              have HNX : Hid (∀ k, k < kk + 1 → k = kk ∨ ¬ StepOk l ps J (news P) d k) := Lib.hid fun q hq => by
                by_cases hqk : q = kk
                · exact .inl hqk
                · exact .inr (HP.out.2 q (by omega))
              clear ha hM2e HOP HWE HHK HFR HOW
              go_upto_region 9 with (go_at_call 31; refine CD.out.mono ?_; rintro e w8 ⟨rfl, r2, hom, hr2, ht⟩; have H8 := Lib.hid (And.intro hom (And.intro (turn_mp hso.a hso.tu ht) (hso.a.keep H7.out.2.2.2 (by decide) (by decide) ht))); clear hom hr2 ht)
              have H9 : Hid (Om (w8.alloc (.cells #[.int .i64 a.code, .bool a.found, .string a.k, .string a.v] 38)) w.heap.size m r2 M2 ∧ Turn No w (w8.alloc (.cells #[.int .i64 a.code, .bool a.found, .string a.k, .string a.v] 38)) ∧ At (w8.alloc (.cells #[.int .i64 a.code, .bool a.found, .string a.k, .string a.v] 38)) g (.cells #[.int .i64 xid, .int .u8 ok, .string k, .string v, .string o, .bool had, .bool aft, .slice A0 ws.length cap0, .bool en, .int .i64 code, .bool found, .string ak, .string av, .int .u8 ah] 77 (0, 0)) ∧ At (w8.alloc (.cells #[.int .i64 a.code, .bool a.found, .string a.k, .string a.v] 38)) w8.heap.size (.cells #[.int .i64 a.code, .bool a.found, .string a.k, .string a.v] 38 (0, 0))) := Lib.hid (by
                have t2 : Turn No w8 (w8.alloc (.cells #[.int .i64 a.code, .bool a.found, .string a.k, .string a.v] 38)) := (Turn.refl _ _).alloc _
                exact ⟨H8.out.1.no t2, H8.out.2.1.trans t2, H8.out.2.2.no t2, At.new _ _⟩)
              clear H8 H7 CD e1 e2 e3 e4 e5 e6 e7 hso HN
              generalize w8.alloc (.cells #[.int .i64 a.code, .bool a.found, .string a.k, .string a.v] 38) = w9 at H9 ⊢
              generalize w8.heap.size = g11 at H9 ⊢
              have CA : Hid (∀ W, Turn No w9 W → Calls Try.prog 39 #[.pointer (some ⟨m, 0, none⟩)] W fun e w' => ∃ B, e = .returned (.slice (some ⟨B, 0, none⟩) M2.length M2.length) ∧ Row w' (some ⟨B, 0, none⟩) (pcs M2) ∧ Turn No W w') := Lib.hid fun W t => (all_any (H9.out.1.no t)).mono (by
                rintro e w' ⟨B, rfl, h1, h2⟩
                exact ⟨B, rfl, row_of_own h1, h2⟩)
              have CT : Hid (∀ W, Turn No w9 W → ∀ B9, Row W (some ⟨B9, 0, none⟩) (pcs M2) → Calls Try.prog 44 #[.slice (some ⟨B9, 0, none⟩) M2.length M2.length, .int .u8 ((d ||| p : Nat) : Int), .pointer (some ⟨gn, 0, none⟩), .pointer (some ⟨gc, 0, none⟩), .pointer (some ⟨gt, 0, none⟩)] W fun e w' => ∃ b, e = .returned (.bool b) ∧ (b = true ↔ PR l ps J M2 (d ||| p)) ∧ Turn No w9 w') := Lib.hid fun W t B9 hB => by
                have h1 := HC.out.2.2.2.2.1
                have h2 := HC.out.2.2.2.2.2.2
                have h3 := news_length P
                have h4 := or_lt HC.out.2.2.2.2.2.1 hlt
                rw [HPP.out] at h4
                have := HIH.out (N - 1) (by omega) M2 (some ⟨B9, 0, none⟩) M2.length (d ||| p) W (by omega) (HC.out.1.no (H9.out.2.1.trans t)) hB (fun h => by cases h) hF2 (by omega) h4
                rw [news_id hA2] at this
                exact this.mono fun e w' h => by
                  obtain ⟨b, g1, g2, g3⟩ := h
                  exact ⟨b, g1, g2, t.trans g3⟩
              have TD : Hid (Turn No w9 w9.drew) := Lib.hid (Turn.refl No w9).drew
              have qo := b_or8 d p hd8 hp8
              have CSS : Hid (∀ W, Turn No w9 W → (W.cell? ⟨g, 8, none⟩ = some (.bool en) ∧ W.cell? ⟨g, 9, none⟩ = some (.int .i64 code) ∧ W.cell? ⟨g, 10, none⟩ = some (.bool found) ∧ W.cell? ⟨g, 11, none⟩ = some (.string ak) ∧ W.cell? ⟨g, 12, none⟩ = some (.string av)) ∧ (W.cell? ⟨g11, 0, none⟩ = some (.int .i64 a.code) ∧ W.cell? ⟨g11, 1, none⟩ = some (.bool a.found) ∧ W.cell? ⟨g11, 2, none⟩ = some (.string a.k) ∧ W.cell? ⟨g11, 3, none⟩ = some (.string a.v)) ∧ W.cell? ⟨gt, 0, none⟩ = some (.func (.func 44) #[] #[.pointer (some ⟨gn, 0, none⟩), .pointer (some ⟨gc, 0, none⟩), .pointer (some ⟨gt, 0, none⟩)])) := Lib.hid fun W t => by
                have h1 := H9.out.2.2.1.no t
                have h2 := H9.out.2.2.2.no t
                have h3 := (HC.out.1.no (H9.out.2.1.trans t)).tbx
                exact ⟨⟨h1.cell 8, h1.cell 9, h1.cell 10, h1.cell 11, h1.cell 12⟩, ⟨h2.cell 0, h2.cell 1, h2.cell 2, h2.cell 3⟩, h3.cell 0⟩
              clear CO
              have CO := Lib.hid fun W => only_any kk (by omega) W
              rw [HPP.out] at CO
              clear hM2 hF2 hA2 hll
              cases en with
              | true =>
                have h3 : stN l id = 3 := of_decide_eq_true HEN.out.symm
                by_cases hae : a = ⟨code, found, ak, av⟩
                · subst hae
                  have HSO : Hid (PR l ps J M2 (d ||| p) ↔ StepOk l ps J (news P) d kk) := Lib.hid ⟨fun h => HST.out (fun _ => HAN.out) h, fun h => (HSN.out h).2⟩
                  have qn := fun W => eql_ans code code found found ak ak av av W
                  rw [ansEq_same] at qn
                  clear h3 HST HSN
                  have hS1 : Hid (∀ W, Turn No w9 W → W.cell? ⟨g, 8, none⟩ = some (.bool true) ∧ W.cell? ⟨g, 9, none⟩ = some (.int .i64 code) ∧ W.cell? ⟨g, 10, none⟩ = some (.bool found) ∧ W.cell? ⟨g, 11, none⟩ = some (.string ak) ∧ W.cell? ⟨g, 12, none⟩ = some (.string av) ∧ W.cell? ⟨g11, 0, none⟩ = some (.int .i64 code) ∧ W.cell? ⟨g11, 1, none⟩ = some (.bool found) ∧ W.cell? ⟨g11, 2, none⟩ = some (.string ak) ∧ W.cell? ⟨g11, 3, none⟩ = some (.string av) ∧ W.cell? ⟨gt, 0, none⟩ = some (.func (.func 44) #[] #[.pointer (some ⟨gn, 0, none⟩), .pointer (some ⟨gc, 0, none⟩), .pointer (some ⟨gt, 0, none⟩)])) := Lib.hid fun W t => by
                    obtain ⟨⟨a1, a2, a3, a4, a5⟩, ⟨a6, a7, a8, a9⟩, a10⟩ := CSS.out W t
                    exact ⟨a1, a2, a3, a4, a5, a6, a7, a8, a9, a10⟩
                  have hS0 := hS1.out _ TD.out
                  go_region_held3 (fun W => W.cell? ⟨g, 8, none⟩ = some (.bool true) ∧ W.cell? ⟨g, 9, none⟩ = some (.int .i64 code) ∧ W.cell? ⟨g, 10, none⟩ = some (.bool found) ∧ W.cell? ⟨g, 11, none⟩ = some (.string ak) ∧ W.cell? ⟨g, 12, none⟩ = some (.string av) ∧ W.cell? ⟨g11, 0, none⟩ = some (.int .i64 code) ∧ W.cell? ⟨g11, 1, none⟩ = some (.bool found) ∧ W.cell? ⟨g11, 2, none⟩ = some (.string ak) ∧ W.cell? ⟨g11, 3, none⟩ = some (.string av) ∧ W.cell? ⟨gt, 0, none⟩ = some (.func (.func 44) #[] #[.pointer (some ⟨gn, 0, none⟩), .pointer (some ⟨gc, 0, none⟩), .pointer (some ⟨gt, 0, none⟩)])) (first | (with_reducible exact hS0) | (with_reducible exact hS1.out _ HTT.out.2) | (with_reducible exact hS1.out _ TA.out)) (first | (go_at_call 39; (with_reducible refine (CA.out _ TD.out).mono ?_); rintro e wa ⟨B9, rfl, ra, ta⟩; have RA := Lib.hid ra; have TA := Lib.hid (TD.out.trans ta); clear ra ta) | (go_at_call 46; (with_reducible refine (CO.out _).mono ?_); rintro e wo ⟨rfl, hwo⟩; replace hwo := hwo.symm; subst hwo) | (go_at_call 44; (with_reducible refine (CT.out _ TA.out _ RA.out).mono ?_); rintro e wt ⟨bt, rfl, ht, tt⟩; have HTT := Lib.hid (And.intro ht tt); clear ht tt))
                  all_goals obtain ⟨br, hbr⟩ : ∃ x, x = bt := ⟨_, rfl⟩
                  all_goals subst hbr
                  all_goals cases br with
                  | true =>
                    have HGO : Hid (PR l ps J (news P) d) := Lib.hid (PR.of_step (HSO.out.1 (HTT.out.1.1 rfl)))
                    go_wp2_with fail
                    go_ret
                    exact TRes.of true rfl ⟨fun _ => HGO.out, fun _ => rfl⟩ (H9.out.2.1.trans HTT.out.2)
                  | false =>
                    have HNO : Hid (¬ StepOk l ps J (news P) d kk) := Lib.hid fun h => by have := HTT.out.1.2 (HSO.out.2 h); cases this
                    go_wp2_with fail
                    exact ⟨⟨kk + 1, by omega, by go_num, Lib.hid ⟨H9.out.2.1.trans HTT.out.2, fun q hq hs => by
                      rcases HNX.out q hq with h | h
                      · subst h; exact HNO.out hs
                      · exact h hs⟩⟩, by simp [RowKit.intOf]; omega⟩
                · have HAE : Hid (¬ StepOk l ps J (news P) d kk) := Lib.hid fun h => hae (by rw [(HSN.out h).1 h3]; exact HAN.out.symm)
                  have qn := fun W => eql_ans a.code code a.found found a.k ak a.v av W
                  have hbe : ansEq a.code code a.found found a.k ak a.v av = false := by
                    rw [Bool.eq_false_iff, Ne, ansEq_iff]; exact hae
                  rw [hbe] at qn
                  clear hbe hae h3
                  obtain ⟨⟨a1, a2, a3, a4, a5⟩, ⟨a6, a7, a8, a9⟩, a10⟩ := CSS.out w9 (Turn.refl No w9)
                  go_quiet (fail)
                  all_goals go_wp2_with fail
                  all_goals exact ⟨⟨kk + 1, by omega, by go_num, Lib.hid ⟨H9.out.2.1.drewN _, fun q hq hs => by
                    rcases HNX.out q hq with h | h
                    · subst h; exact HAE.out hs
                    · exact h hs⟩⟩, by simp [RowKit.intOf]; omega⟩
              | false =>
                have h3 : ¬ stN l id = 3 := of_decide_eq_false HEN.out.symm
                have HSO : Hid (PR l ps J M2 (d ||| p) ↔ StepOk l ps J (news P) d kk) := Lib.hid ⟨fun h => HST.out (fun h4 => absurd h4 h3) h, fun h => (HSN.out h).2⟩
                clear h3 HST HSN
                have hS1 : Hid (∀ W, Turn No w9 W → W.cell? ⟨g, 8, none⟩ = some (.bool false) ∧ W.cell? ⟨gt, 0, none⟩ = some (.func (.func 44) #[] #[.pointer (some ⟨gn, 0, none⟩), .pointer (some ⟨gc, 0, none⟩), .pointer (some ⟨gt, 0, none⟩)])) := Lib.hid fun W t => ⟨(CSS.out W t).1.1, (CSS.out W t).2.2⟩
                have hS0 := hS1.out _ TD.out
                go_cut [57] from 39 to 57 (fun s wx => ∃ bt, s = .bool bt ∧ Hid ((bt = true ↔ PR l ps J M2 (d ||| p)) ∧ Turn No w9 wx))
                case first =>
                  refine wp_region_held_drew (S := fun W => W.cell? ⟨g, 8, none⟩ = some (.bool false) ∧ W.cell? ⟨gt, 0, none⟩ = some (.func (.func 44) #[] #[.pointer (some ⟨gn, 0, none⟩), .pointer (some ⟨gc, 0, none⟩), .pointer (some ⟨gt, 0, none⟩)])) (by kernel_rfl) hS0 (fun hHeld => ?_)
                  refine wpAnyH_take (i := 0) (v := ?v1) rfl (by kernel_rfl) (by kernel_rfl) (by kernel_rfl) (fun _ _ _ h => h) (Or.inl ⟨by (first | rfl | (go_simp; done) | (simp [Region.wanted, yielded]; done)), ?h1⟩) (by assumption) ?r1
                  case h1 => (intro w hSw; (try dsimp only at hSw); first | (go_simp; done) | (go_simp; with_reducible rfl))
                  try simp only [Act.put, List.getElem_toArray, List.getElem_cons_succ, List.getElem_cons_zero, List.setIfInBounds_toArray, List.set_cons_zero, List.set_cons_succ]
                  refine wpAnyH_take (i := 1) (v := ?v2) rfl (by kernel_rfl) (by kernel_rfl) (by kernel_rfl) (fun _ _ _ h => h) (Or.inl ⟨by (first | rfl | (go_simp; done) | (simp [Region.wanted, yielded]; done)), ?h2⟩) (by assumption) ?r2
                  case h2 => (intro w hSw; (try dsimp only at hSw); first | (go_simp; done) | (go_simp; with_reducible rfl))
                  try simp only [Act.put, List.getElem_toArray, List.getElem_cons_succ, List.getElem_cons_zero, List.setIfInBounds_toArray, List.set_cons_zero, List.set_cons_succ]
                  refine wpAnyH_take (i := 2) (v := ?v3) rfl (by kernel_rfl) (by kernel_rfl) (by kernel_rfl) (fun _ _ _ h => h) (Or.inl ⟨by (first | rfl | (go_simp; done) | (simp [Region.wanted, yielded]; done)), ?h3⟩) (by assumption) ?r3
                  case h3 => (intro w hSw; (try dsimp only at hSw); first | (go_simp; done) | (go_simp; with_reducible rfl))
                  try simp only [Act.put, List.getElem_toArray, List.getElem_cons_succ, List.getElem_cons_zero, List.setIfInBounds_toArray, List.set_cons_zero, List.set_cons_succ]
                  refine wpAnyH_take (i := 3) (v := ?v4) rfl (by kernel_rfl) (by kernel_rfl) (by kernel_rfl) (fun _ _ _ h => h) (Or.inl ⟨by (first | rfl | (go_simp; done) | (simp [Region.wanted, yielded]; done)), ?h4⟩) (by assumption) ?r4
                  case h4 => (intro w hSw; (try dsimp only at hSw); first | (go_simp; done) | (go_simp; with_reducible rfl))
                  try simp only [Act.put, List.getElem_toArray, List.getElem_cons_succ, List.getElem_cons_zero, List.setIfInBounds_toArray, List.set_cons_zero, List.set_cons_succ]
                  refine wpAnyH_take (i := 4) (v := undef) rfl (by kernel_rfl) (by kernel_rfl) (by kernel_rfl) (fun _ _ _ h => h) (Or.inr ⟨by (first | (go_simp; done) | (simp [Region.wanted, yielded]; done)), rfl⟩) (by assumption) ?_
                  try simp only [Act.put, List.getElem_toArray, List.getElem_cons_succ, List.getElem_cons_zero, List.setIfInBounds_toArray, List.set_cons_zero, List.set_cons_succ]
                  refine wpAnyH_take (i := 5) (v := undef) rfl (by kernel_rfl) (by kernel_rfl) (by kernel_rfl) (fun _ _ _ h => h) (Or.inr ⟨by (first | (go_simp; done) | (simp [Region.wanted, yielded]; done)), rfl⟩) (by assumption) ?_
                  try simp only [Act.put, List.getElem_toArray, List.getElem_cons_succ, List.getElem_cons_zero, List.setIfInBounds_toArray, List.set_cons_zero, List.set_cons_succ]
                  refine wpAnyH_take (i := 6) (v := undef) rfl (by kernel_rfl) (by kernel_rfl) (by kernel_rfl) (fun _ _ _ h => h) (Or.inr ⟨by (first | (go_simp; done) | (simp [Region.wanted, yielded]; done)), rfl⟩) (by assumption) ?_
                  try simp only [Act.put, List.getElem_toArray, List.getElem_cons_succ, List.getElem_cons_zero, List.setIfInBounds_toArray, List.set_cons_zero, List.set_cons_succ]
                  refine wpAnyH_take (i := 7) (v := undef) rfl (by kernel_rfl) (by kernel_rfl) (by kernel_rfl) (fun _ _ _ h => h) (Or.inr ⟨by (first | (go_simp; done) | (simp [Region.wanted, yielded]; done)), rfl⟩) (by assumption) ?_
                  try simp only [Act.put, List.getElem_toArray, List.getElem_cons_succ, List.getElem_cons_zero, List.setIfInBounds_toArray, List.set_cons_zero, List.set_cons_succ]
                  refine wpAnyH_take (i := 8) (v := ?v5) rfl (by kernel_rfl) (by kernel_rfl) (by kernel_rfl) (fun _ _ _ h => h) (Or.inl ⟨by (first | rfl | (go_simp; done) | (simp [Region.wanted, yielded]; done)), ?h5⟩) (by assumption) ?r5
                  case h5 => (intro w hSw; (try dsimp only at hSw); first | (go_simp; done) | (go_simp; with_reducible rfl))
                  try simp only [Act.put, List.getElem_toArray, List.getElem_cons_succ, List.getElem_cons_zero, List.setIfInBounds_toArray, List.set_cons_zero, List.set_cons_succ]
                  refine wpAnyH_take (i := 9) (v := ?v6) rfl (by kernel_rfl) (by kernel_rfl) (by kernel_rfl) (fun _ _ _ h => h) (Or.inl ⟨by (first | rfl | (go_simp; done) | (simp [Region.wanted, yielded]; done)), ?h6⟩) (by assumption) ?r6
                  case h6 => (intro w hSw; (try dsimp only at hSw); first | (go_simp; done) | (go_simp; with_reducible rfl))
                  try simp only [Act.put, List.getElem_toArray, List.getElem_cons_succ, List.getElem_cons_zero, List.setIfInBounds_toArray, List.set_cons_zero, List.set_cons_succ]
                  refine wpAnyH_take (i := 10) (v := ?v7) rfl (by kernel_rfl) (by kernel_rfl) (by kernel_rfl) (fun _ _ _ h => h) (Or.inl ⟨by (first | rfl | (go_simp; done) | (simp [Region.wanted, yielded]; done)), ?h7⟩) (by assumption) ?r7
                  case h7 => (intro w hSw; (try dsimp only at hSw); first | (go_simp; done) | (go_simp; with_reducible rfl))
                  try simp only [Act.put, List.getElem_toArray, List.getElem_cons_succ, List.getElem_cons_zero, List.setIfInBounds_toArray, List.set_cons_zero, List.set_cons_succ]
                  refine wpAnyH_take (i := 11) (v := ?v8) rfl (by kernel_rfl) (by kernel_rfl) (by kernel_rfl) (fun _ _ _ h => h) (Or.inl ⟨by (first | rfl | (go_simp; done) | (simp [Region.wanted, yielded]; done)), ?h8⟩) (by assumption) ?r8
                  case h8 => (intro w hSw; (try dsimp only at hSw); first | (go_simp; done) | (go_simp; with_reducible rfl))
                  try simp only [Act.put, List.getElem_toArray, List.getElem_cons_succ, List.getElem_cons_zero, List.setIfInBounds_toArray, List.set_cons_zero, List.set_cons_succ]
                  refine wpAnyH_take (i := 13) (v := ?v9) rfl (by kernel_rfl) (by kernel_rfl) (by kernel_rfl) (fun _ _ _ h => h) (Or.inl ⟨by (first | rfl | (go_simp; done) | (simp [Region.wanted, yielded]; done)), ?h9⟩) (by assumption) ?r9
                  case h9 => (intro w hSw; (try dsimp only at hSw); first | (go_simp; done) | (go_simp; with_reducible rfl))
                  try simp only [Act.put, List.getElem_toArray, List.getElem_cons_succ, List.getElem_cons_zero, List.setIfInBounds_toArray, List.set_cons_zero, List.set_cons_succ]
                  refine wpAnyH_take (i := 14) (v := ?v10) rfl (by kernel_rfl) (by kernel_rfl) (by kernel_rfl) (fun _ _ _ h => h) (Or.inl ⟨by (first | rfl | (go_simp; done) | (simp [Region.wanted, yielded]; done)), ?h10⟩) (by assumption) ?r10
                  case h10 => (intro w hSw; (try dsimp only at hSw); first | (go_simp; done) | (go_simp; with_reducible rfl))
                  try simp only [Act.put, List.getElem_toArray, List.getElem_cons_succ, List.getElem_cons_zero, List.setIfInBounds_toArray, List.set_cons_zero, List.set_cons_succ]
                  refine wpAnyH_ready (rs := [12]) (by kernel_rfl) (by simp) ?_
                  refine AllReadyH.cons rfl (fun K hK => ?_) AllReadyH.nil
                  go_simp
                  go_at_call 39
                  (with_reducible refine (CA.out _ TD.out).mono ?_)
                  rintro e wa ⟨B9, rfl, ra, ta⟩
                  have RA := Lib.hid ra
                  have TA := Lib.hid (TD.out.trans ta)
                  clear ra ta
                  try (go_wp2_with fail)
                  refine hK.out _ _ ?_ (fun hHeld => ?_)
                  · exact hS1.out _ TA.out
                  clear hK K
                  try simp only [Act.put, List.getElem_toArray, List.getElem_cons_succ, List.getElem_cons_zero, List.setIfInBounds_toArray, List.set_cons_zero, List.set_cons_succ]
                  refine wpAnyH_ready (rs := [15]) (by kernel_rfl) (by simp) ?_
                  refine AllReadyH.cons rfl (fun K hK => ?_) AllReadyH.nil
                  go_simp
                  go_at_call 46
                  (with_reducible refine (CO.out _).mono ?_)
                  rintro e wo ⟨rfl, hwo⟩
                  replace hwo := hwo.symm
                  subst hwo
                  try (go_wp2_with fail)
                  refine hK.out _ _ ?_ (fun hHeld => ?_)
                  · exact hS1.out _ TA.out
                  clear hK K
                  try simp only [Act.put, List.getElem_toArray, List.getElem_cons_succ, List.getElem_cons_zero, List.setIfInBounds_toArray, List.set_cons_zero, List.set_cons_succ]
                  refine wpAnyH_take (i := 16) (v := ?v11) rfl (by kernel_rfl) (by kernel_rfl) (by kernel_rfl) (fun _ _ _ h => h) (Or.inl ⟨by (first | rfl | (go_simp; done) | (simp [Region.wanted, yielded]; done)), ?h11⟩) (by assumption) ?r11
                  case h11 => (intro w hSw; (try dsimp only at hSw); first | (go_simp; done) | (go_simp; with_reducible rfl))
                  try simp only [Act.put, List.getElem_toArray, List.getElem_cons_succ, List.getElem_cons_zero, List.setIfInBounds_toArray, List.set_cons_zero, List.set_cons_succ]
                  refine wpAnyH_ready (rs := [17]) (by kernel_rfl) (by simp) ?_
                  refine AllReadyH.cons rfl (fun K hK => ?_) AllReadyH.nil
                  go_simp
                  go_at_call 44
                  (with_reducible refine (CT.out _ TA.out _ RA.out).mono ?_)
                  rintro e wt ⟨bt, rfl, ht, tt⟩
                  have HTT := Lib.hid (And.intro ht tt)
                  clear ht tt
                  try (go_wp2_with fail)
                  refine hK.out _ _ ?_ (fun hHeld => ?_)
                  · exact hS1.out _ HTT.out.2
                  clear hK K
                  try simp only [Act.put, List.getElem_toArray, List.getElem_cons_succ, List.getElem_cons_zero, List.setIfInBounds_toArray, List.set_cons_zero, List.set_cons_succ]
                  refine wpAnyH_take (i := 18) (v := ?v12) rfl (by kernel_rfl) (by kernel_rfl) (by kernel_rfl) (fun _ _ _ h => h) (Or.inl ⟨by (first | rfl | (go_simp; done) | (simp [Region.wanted, yielded]; done)), ?h12⟩) (by assumption) ?r12
                  case h12 => (intro w hSw; (try dsimp only at hSw); first | (go_simp; done) | (go_simp; with_reducible rfl))
                  try simp only [Act.put, List.getElem_toArray, List.getElem_cons_succ, List.getElem_cons_zero, List.setIfInBounds_toArray, List.set_cons_zero, List.set_cons_succ]
                  refine wpAnyH_done (by kernel_rfl) ?_ _
                  go_wp2_with fail
                  go_meet
                  exact ⟨_, rfl, HTT⟩
                case rest =>
                  obtain ⟨bt, rfl, HTT⟩ := hcut
                  generalize wc = wt at HTT ⊢
                  clear CSS CA CT CO TD hS0 hS1
                  all_goals obtain ⟨br, hbr⟩ : ∃ x, x = bt := ⟨_, rfl⟩
                  all_goals subst hbr
                  all_goals cases br with
                  | true =>
                    have HGO : Hid (PR l ps J (news P) d) := Lib.hid (PR.of_step (HSO.out.1 (HTT.out.1.1 rfl)))
                    go_wp2_with fail
                    go_ret
                    exact TRes.of true rfl ⟨fun _ => HGO.out, fun _ => rfl⟩ (H9.out.2.1.trans HTT.out.2)
                  | false =>
                    have HNO : Hid (¬ StepOk l ps J (news P) d kk) := Lib.hid fun h => by have := HTT.out.1.2 (HSO.out.2 h); cases this
                    go_wp2_with fail
                    exact ⟨⟨kk + 1, by omega, by go_num, Lib.hid ⟨H9.out.2.1.trans HTT.out.2, fun q hq hs => by
                      rcases HNX.out q hq with h | h
                      · subst h; exact HNO.out hs
                      · exact h hs⟩⟩, by simp [RowKit.intOf]; omega⟩
            · rw [decide_eq_false hfr] at C452
              have HNS : Hid (∀ k, k < kk + 1 → ¬ StepOk l ps J (news P) d k) := Lib.hid fun q hq hs => by
                by_cases hqk : q = kk
                · subst hqk
                  obtain ⟨_, _, _, h3, _⟩ := hs
                  rw [← HAH.out] at h3
                  exact hfr h3
                · exact HP.out.2 q (by omega) hs
              clear hfr
              go_wp2_with (first | (go_at_call 46; (with_reducible refine (CO.out _).mono ?_); rintro e wz ⟨rfl, hw⟩; replace hw := hw.symm; subst hw) | (go_at_call 45; (with_reducible refine (C451.out _).mono ?_); rintro e wz ⟨rfl, hw⟩; replace hw := hw.symm; subst hw) | (go_at_call 45; (with_reducible refine (C452.out _).mono ?_); rintro e wz ⟨rfl, hw⟩; replace hw := hw.symm; subst hw))
              exact ⟨⟨kk + 1, by omega, by go_num, Lib.hid ⟨HN.out.1, HNS.out⟩⟩, by simp [RowKit.intOf]; omega⟩
        · obtain rfl : kk = J.length := by omega
          have HFF : Hid (¬ PR l ps J (news P) d) := Lib.hid (PR.none (by rw [HEE.out]; exact HD.out) HP.out.2)
          go_wp2_with fail
          go_ret
          exact TRes.of false rfl ⟨fun h => by (cases h), fun h => absurd h HFF.out⟩ HP.out.1
  termination_by N => N
end Go.Proofs.Ytllppkfeiifklaa
