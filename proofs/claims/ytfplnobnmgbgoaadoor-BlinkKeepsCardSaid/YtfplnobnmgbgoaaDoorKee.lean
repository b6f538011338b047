/-
  BlinkKeeps.
-/
import Derived.Test.YtfplnobnmgbgoaaDoorJ18
import Derived.Test.YtfplnobnmgbgoaaDoorJ19
namespace Go.Proofs.YtfplnobnmgbgoaaDoor
open Go.RowKit Go.Lib
set_option linter.unusedVariables false
set_option maxRecDepth 20000
set_option linter.unusedSimpArgs false


set_option maxRecDepth 100000 in
set_option maxHeartbeats 16000000 in
theorem keeps_law (L : List Ac) (A : Option Addr) (c : Nat) (w : World) (h : Row w A (acs L)) (hn : L.length ≤ 9223372036854775807) (hf : ∀ a ∈ L, Fit a.k ∧ Fit a.v) (hT : Tab w) :
    Calls Tryd.prog 4 #[.slice A L.length c] w fun e w' => e = .returned (.bool true) ∧ Turn No w w' := by
  have CA := Lib.hid (awake_any w hT)
  have HR := Lib.hid (And.intro h (And.intro hn (And.intro hf hT)))
  have TT : Hid (∀ W, Turn No w W → Tab W) := Lib.hid fun W t => hT.turn t (fun h => h) hT.pos
  clear h hn hf hT
  go_enter Tryd.func4, Tryd.ntmps4
  go_wp2_with (go_at_call 6; (with_reducible refine CA.out.mono ?_); rintro e w1 ⟨rfl, h1⟩; have H1 := Lib.hid h1; have CG := Lib.hid (great_any L A c w1 (HR.out.1.no h1) HR.out.2.1 HR.out.2.2.1); clear h1)
  refine CG.out.mono ?_
  rintro e w2 ⟨⟨(_ | _), rfl, hb, h2⟩⟩
  case true =>
    have H2 := Lib.hid (H1.out.trans h2)
    clear h2 hb CG CA H1
    go_wp2_with fail
    go_ret
    exact ⟨rfl, H2.out⟩
  case false =>
    have hsm := hb rfl
    have H2 := Lib.hid (H1.out.trans h2)
    have HSM := Lib.hid hsm
    have NP := Lib.hid (newPool_any 4096 w2 (by omega) (by omega))
    clear hsm h2 hb CG CA H1
    go_wp2_with (first
      | (go_at_call 7; refine NP.out.mono ?_; rintro e w3 ⟨pb, gb, fb, rfl, hP, ht, l1, l2, l3⟩; have CN := Lib.hid (tq_new (n := 4096) (by decide) hP (TT.out _ (H2.out.trans ht)) ht l1 l2 l3); clear hP ht l1 l2 l3)
      | (go_at_call 8; (with_reducible refine CN.out.mono ?_); rintro e w4 ⟨I, T0, rfl, rfl, k2, k3, k4, k5, k6⟩; have H4 := Lib.hid (And.intro k2 (And.intro k3 (And.intro k4 (And.intro k5 k6)))); clear k2 k3 k4 k5 k6))
    go_loopw [7, 8] (fun dl x wr => ∃ (i : Nat) (T : List Lvl) (del : Bool), i ≤ L.length ∧ dl = .bool del ∧ x = .int .i64 (i : Int) ∧ Hid (Tq wr I T 4096 ∧ flatT T = doneL (L.take i) ∧ (leaves T).length ≤ i + 1 ∧ (del = false → MinL T) ∧ Turn No w2 wr)) (fun dl x _ => L.length - (RowKit.intOf x).toNat)
    case atStart => exact ⟨0, T0, false, Nat.zero_le _, rfl, rfl, Lib.hid ⟨H4.out.2.1, by rw [H4.out.2.2.1]; rfl, by rw [H4.out.2.2.2.1]; exact Nat.le_refl _, fun _ => .inl H4.out.2.2.2.1, H4.out.2.2.2.2⟩⟩
    case round =>
      obtain ⟨i, T, del, hi, rfl, rfl, HI⟩ := hrel
      have HL : Hid (L.length ≤ 300) := Lib.hid HSM.out.n
      by_cases hlt : i < L.length
      · obtain ⟨a, ha⟩ : ∃ t, L[i]? = some t := ⟨L[i], List.getElem?_eq_getElem hlt⟩
        obtain ⟨b, o, hA, hc0⟩ := acs_get HR.out.1 ha
        have hc := hc0.no (H2.out.trans HI.out.2.2.2.2)
        have HC := Lib.hid hc0
        clear hc0
        have HS0 := Lib.hid fun W (t : Turn No w W) => (act_turn HC.out t)
        obtain ⟨c0, c1, c2, c3, lb⟩ := hc
        have hk := HSM.out.k a (List.mem_of_getElem? ha)
        have HD := Lib.hid (doneL_take ha)
        have HP := Lib.hid fun W (t : Turn No wr W) => tq_put (HI.out.1.no t) a.k a.v (fit_of hk.1) (fit_of hk.2) (by have := HI.out.2.2.1; have := HL.out; omega)
        have HQ := Lib.hid fun W (t : Turn No wr W) => tq_del (HI.out.1.no t) a.k (fit_of hk.1)
        have HJw : Hid (Value.int .i64 (wrap64 ((i : Int) + 1)) = Value.int .i64 ((i + 1 : Nat) : Int)) := Lib.hid (by have h1 := HL.out; rw [show wrap64 ((i : Int) + 1) = ((i + 1 : Nat) : Int) by simp only [wrap64]; omega])
        have HJm : Hid (L.length - (RowKit.intOf (.int .i64 ((i + 1 : Nat) : Int))).toNat < L.length - (RowKit.intOf (.int .i64 (i : Int))).toNat) := Lib.hid (by simp [RowKit.intOf]; omega)
        have HJ : Hid (i + 1 ≤ L.length) := Lib.hid hlt
        subst hA
        obtain ⟨d, k, v, aft⟩ := a
        have q1 : (0 : Int) ≤ (i : Int) := by omega
        have q2 : (i : Int) < (L.length : Int) := by omega
        simp only at c0 c1 c2 c3 HP HQ HD HS0
        clear HC hlt ha hk hi c3
        by_cases hd0 : d = 0
        · subst hd0
          have HN : Hid (∀ W w', Turn No wr W → PutS I T 4096 (putL (flatT T) k v) W w' → ∃ T', Tq w' I T' 4096 ∧ flatT T' = doneL (L.take (i + 1)) ∧ (leaves T').length ≤ i + 1 + 1 ∧ (del = false → MinL T') ∧ Turn No w2 w') := Lib.hid fun W w' t ⟨⟨T', k1, k2, k3, k4, k5, _⟩⟩ => ⟨T', k1, by rw [HD.out, k2, HI.out.2.1]; rfl, by have := HI.out.2.2.1; omega, fun h => k5 (HI.out.2.2.2.1 h), H4.out.1.turn (HI.out.2.2.2.2.trans t) k3⟩
          clear HD
          go_upto_region 15 with fail
          go_region_held3 (fun W => W.cell? ⟨b, o + i * 4 + 1, none⟩ = some (.string k) ∧ W.cell? ⟨b, o + i * 4 + 2, none⟩ = some (.string v)) (first | (exact HS0.out _ (by obtain ⟨T', h5⟩ := H5.out; exact H2.out.trans h5.2.2.2.2)) | (exact HS0.out _ (H2.out.trans (HI.out.2.2.2.2.trans (by first | exact (Turn.refl No _).drewN _ | exact (Turn.refl No _).drew | exact Turn.refl No _))))) (first | (go_at_call 18; (with_reducible refine (HP.out _ (by first | exact (Turn.refl No _).drewN _ | exact (Turn.refl No _).drew | exact Turn.refl No _)).mono ?_); rintro e w5 ⟨rfl, h5⟩; have H5 := Lib.hid (HN.out _ _ (by first | exact (Turn.refl No _).drewN _ | exact (Turn.refl No _).drew | exact Turn.refl No _) h5); clear h5))
          all_goals go_wp2_with fail
          obtain ⟨T', h5⟩ := H5.out
          rw [HJw.out]
          exact ⟨⟨i + 1, T', del, HJ.out, rfl, rfl, Lib.hid h5⟩, HJm.out⟩
        · by_cases hd1 : d = 1
          · subst hd1
            obtain ⟨hd, hhd⟩ : ∃ x, (getL (flatT T) k).isSome = x := ⟨_, rfl⟩
            rw [hhd] at HQ
            have HN : Hid (∀ W w', Turn No wr W → DelS I T 4096 k W w' → ∃ T', Tq w' I T' 4096 ∧ flatT T' = doneL (L.take (i + 1)) ∧ (leaves T').length ≤ i + 1 + 1 ∧ ((del || hd) = false → MinL T') ∧ Turn No w2 w') := Lib.hid fun W w' t ⟨⟨T', k1, k2, k3, k4, k5, _⟩⟩ => ⟨T', k1, by rw [HD.out, k2, HI.out.2.1]; rfl, by have := HI.out.2.2.1; omega, fun h => by
              have h2 : del = false ∧ hd = false := by simpa using h
              refine k5 ?_ (HI.out.2.2.2.1 h2.1)
              rw [h2.2] at hhd
              simpa using hhd, H4.out.1.turn (HI.out.2.2.2.2.trans t) k3⟩
            clear HD hd0 hhd
            cases del with
            | true =>
              go_wp2_with (go_at_call 19; (with_reducible refine (HQ.out _ (by first | exact (Turn.refl No _).drewN _ | exact (Turn.refl No _).drew | exact Turn.refl No _)).mono ?_); rintro e w5 ⟨rfl, h5⟩; have H5 := Lib.hid (HN.out _ _ (by first | exact (Turn.refl No _).drewN _ | exact (Turn.refl No _).drew | exact Turn.refl No _) h5); clear h5)
              obtain ⟨T', h5⟩ := H5.out
              rw [HJw.out]
              exact ⟨⟨i + 1, T', true, HJ.out, rfl, rfl, Lib.hid h5⟩, HJm.out⟩
            | false =>
              go_wp2_with (go_at_call 19; (with_reducible refine (HQ.out _ (by first | exact (Turn.refl No _).drewN _ | exact (Turn.refl No _).drew | exact Turn.refl No _)).mono ?_); rintro e w5 ⟨rfl, h5⟩; have H5 := Lib.hid (HN.out _ _ (by first | exact (Turn.refl No _).drewN _ | exact (Turn.refl No _).drew | exact Turn.refl No _) h5); clear h5)
              obtain ⟨T', h5⟩ := H5.out
              rw [HJw.out]
              exact ⟨⟨i + 1, T', hd, HJ.out, rfl, rfl, Lib.hid h5⟩, HJm.out⟩
          · have HN : Hid (flatT T = doneL (L.take (i + 1)) ∧ (leaves T).length ≤ i + 1 + 1) := Lib.hid ⟨by rw [HD.out, HI.out.2.1]; unfold doA; rw [if_neg hd0, if_neg hd1], by have := HI.out.2.2.1; omega⟩
            clear HD
            go_wp2_with fail
            rw [HJw.out]
            exact ⟨⟨i + 1, T, del, HJ.out, rfl, rfl, Lib.hid ⟨HI.out.1.no (by first | exact (Turn.refl No _).drewN _ | exact (Turn.refl No _).drew | exact Turn.refl No _), HN.out.1, HN.out.2, HI.out.2.2.2.1, HI.out.2.2.2.2.trans (by first | exact (Turn.refl No _).drewN _ | exact (Turn.refl No _).drew | exact Turn.refl No _)⟩⟩, HJm.out⟩
      · obtain rfl : i = L.length := by omega
        have q2 : ¬ (L.length : Int) < (L.length : Int) := by omega
        have HQ : Hid (Tq wr I T 4096 ∧ flatT T = doneL L ∧ (del = false → MinL T) ∧ Turn No w wr) := Lib.hid (by
          have := HI.out
          rw [List.take_length] at this
          exact ⟨this.1, this.2.1, this.2.2.2.1, H2.out.trans this.2.2.2.2⟩)
        clear HI hlt hi H4
        go_wp2_with fail
        rename World => w5
        go_loopw [14] (fun x wr => ∃ (i : Nat), i ≤ L.length ∧ x = .int .i64 (i : Int) ∧ Hid (Turn No w5 wr)) (fun x _ => L.length - (RowKit.intOf x).toNat)
        case atStart => exact ⟨0, Nat.zero_le _, rfl, Lib.hid (Turn.refl _ _)⟩
        case round =>
          obtain ⟨i, hi, rfl, HI⟩ := hrel
          have HIJ : Hid (i ≤ L.length) := Lib.hid hi
          by_cases hlt : i < L.length
          · obtain ⟨a, ha⟩ : ∃ t, L[i]? = some t := ⟨L[i], List.getElem?_eq_getElem hlt⟩
            have HA := Lib.hid ha
            have q2 : (i : Int) < (L.length : Int) := by omega
            have HLT := Lib.hid hlt
            clear hi hlt ha
            go_wp2_with fail
            rename World => w6
            go_loopw [15, 16] (fun la x wr => ∃ (k j : Nat), k ≤ L.length ∧ la = .int .i64 (j : Int) ∧ x = .int .i64 (k : Int) ∧ Hid (LastA L i a.k k j ∧ Turn No w6 wr)) (fun la x _ => L.length - (RowKit.intOf x).toNat)
            case atStart => exact ⟨0, i, Nat.zero_le _, rfl, rfl, Lib.hid ⟨LastA.start _ _ _, Turn.refl _ _⟩⟩
            case round =>
              obtain ⟨k, j, hk, rfl, rfl, HK⟩ := hrel
              have HKJ : Hid (k ≤ L.length) := Lib.hid hk
              by_cases hlk : k < L.length
              · obtain ⟨b, hb⟩ : ∃ t, L[k]? = some t := ⟨L[k], List.getElem?_eq_getElem hlk⟩
                have tz := (HQ.out.2.2.2.trans HI.out).trans HK.out.2
                obtain ⟨ba, oa, hA1, ca⟩ := acs_get HR.out.1 HA.out
                obtain ⟨bb, ob, hA2, cb⟩ := acs_get HR.out.1 hb
                have e1 : bb = ba ∧ ob = oa := by
                  rw [hA1] at hA2
                  injection hA2 with hA2
                  injection hA2 with e1 e2
                  exact ⟨e1.symm, e2.symm⟩
                obtain ⟨rfl, rfl⟩ := e1
                obtain ⟨x0, x1, x2, x3, x4⟩ := ca.no tz
                obtain ⟨y0, y1, y2, y3, y4⟩ := cb.no tz
                have HHIT := Lib.hid fun (h : hits a.k b) => LastA.hit (i := i) hb h
                have HMISS := Lib.hid fun (h : ¬ hits a.k b) => HK.out.1.miss hb h
                have HJw : Hid (Value.int .i64 (wrap64 ((k : Int) + 1)) = Value.int .i64 ((k + 1 : Nat) : Int)) := Lib.hid (by have h1 := HL.out; rw [show wrap64 ((k : Int) + 1) = ((k + 1 : Nat) : Int) by simp only [wrap64]; omega])
                have HJm : Hid (L.length - (RowKit.intOf (.int .i64 ((k + 1 : Nat) : Int))).toNat < L.length - (RowKit.intOf (.int .i64 (k : Int))).toNat) := Lib.hid (by simp [RowKit.intOf]; omega)
                have HJ : Hid (k + 1 ≤ L.length) := Lib.hid hlk
                have q4 : (k : Int) < (L.length : Int) := by omega
                have q5 : (0 : Int) ≤ (i : Int) := by omega
                have q6 : (0 : Int) ≤ (k : Int) := by omega
                have qe := bytes_beq b.k a.k
                have HC := Lib.hid (And.intro (fun W (t : Turn No wr W) => ca.no (tz.trans t)) (fun W (t : Turn No wr W) => cb.no (tz.trans t)))
                subst hA1
                clear hA2 hlk hk hb tz ca cb
                have qd1 : decide ((0 : Int) ≤ b.d) = decide (0 ≤ b.d) := rfl
                by_cases h1 : b.k = a.k
                · rw [decide_eq_true h1] at qe
                  by_cases h2 : 0 ≤ b.d
                  · by_cases h3 : b.d ≤ 1
                    · have HN := Lib.hid (HHIT.out ⟨h1, h2, h3⟩)
                      clear HHIT HMISS h1 qd1
                      go_upto_region 28 with fail
                      go_quiet (fail)
                      all_goals go_wp2_with fail
                      rw [HJw.out]
                      exact ⟨⟨k + 1, k, HJ.out, rfl, rfl, Lib.hid ⟨HN.out, HK.out.2.trans (by first | exact (Turn.refl No _).drewN _ | exact (Turn.refl No _).drew | exact Turn.refl No _)⟩⟩, HJm.out⟩
                    · have HN := Lib.hid (HMISS.out fun h => h3 h.2.2)
                      clear HHIT HMISS
                      go_upto_region 28 with fail
                      go_quiet (fail)
                      all_goals go_wp2_with fail
                      rw [HJw.out]
                      exact ⟨⟨k + 1, j, HJ.out, rfl, rfl, Lib.hid ⟨HN.out, HK.out.2.trans (by first | exact (Turn.refl No _).drewN _ | exact (Turn.refl No _).drew | exact Turn.refl No _)⟩⟩, HJm.out⟩
                  · have HN := Lib.hid (HMISS.out fun h => h2 h.2.1)
                    clear HHIT HMISS
                    go_upto_region 28 with fail
                    go_quiet (fail)
                    all_goals go_wp2_with fail
                    rw [HJw.out]
                    exact ⟨⟨k + 1, j, HJ.out, rfl, rfl, Lib.hid ⟨HN.out, HK.out.2.trans (by first | exact (Turn.refl No _).drewN _ | exact (Turn.refl No _).drew | exact Turn.refl No _)⟩⟩, HJm.out⟩
                · have HN := Lib.hid (HMISS.out fun h => h1 h.1)
                  rw [decide_eq_false h1] at qe
                  clear HHIT HMISS
                  go_upto_region 28 with fail
                  go_quiet (fail)
                  all_goals go_wp2_with fail
                  rw [HJw.out]
                  exact ⟨⟨k + 1, j, HJ.out, rfl, rfl, Lib.hid ⟨HN.out, HK.out.2.trans (by first | exact (Turn.refl No _).drewN _ | exact (Turn.refl No _).drew | exact Turn.refl No _)⟩⟩, HJm.out⟩
              · obtain rfl : k = L.length := by omega
                obtain ⟨b, hb, hjl, hget⟩ := HK.out.1.done HA.out rfl
                have tz := (HQ.out.2.2.2.trans HI.out).trans HK.out.2
                obtain ⟨ba, oa, hA1, ca⟩ := acs_get HR.out.1 HA.out
                obtain ⟨bb, ob, hA2, cb⟩ := acs_get HR.out.1 hb
                have e1 : bb = ba ∧ ob = oa := by
                  rw [hA1] at hA2
                  injection hA2 with hA2
                  injection hA2 with e1 e2
                  exact ⟨e1.symm, e2.symm⟩
                obtain ⟨rfl, rfl⟩ := e1
                obtain ⟨x0, x1, x2, x3, x4⟩ := ca.no tz
                have HC := Lib.hid fun W (t : Turn No wr W) => cb.no (tz.trans t)
                have hka := HSM.out.k a (List.mem_of_getElem? HA.out)
                have HG := Lib.hid (tq_get (HQ.out.1.no (HI.out.trans HK.out.2)) a.k (fit_of hka.1))
                rw [HQ.out.2.1] at HG
                rw [hget] at HG
                have q4 : ¬ (L.length : Int) < (L.length : Int) := by omega
                have q5 : (0 : Int) ≤ (i : Int) := by omega
                have q6 : (0 : Int) ≤ (j : Int) := by omega
                have q7 : (j : Int) < (L.length : Int) := by omega
                have HJw : Hid (Value.int .i64 (wrap64 ((i : Int) + 1)) = Value.int .i64 ((i + 1 : Nat) : Int)) := Lib.hid (by have h1 := HL.out; have := HLT.out; rw [show wrap64 ((i : Int) + 1) = ((i + 1 : Nat) : Int) by simp only [wrap64]; omega])
                have HJm : Hid (L.length - (RowKit.intOf (.int .i64 ((i + 1 : Nat) : Int))).toNat < L.length - (RowKit.intOf (.int .i64 (i : Int))).toNat) := Lib.hid (by have := HLT.out; simp [RowKit.intOf]; omega)
                have HJ : Hid (i + 1 ≤ L.length) := HLT
                have HT5 := Lib.hid (HI.out.trans HK.out.2)
                have qv := bytes_beq b.v b.v
                rw [decide_eq_true rfl] at qv
                subst hA1
                clear hA2 hk hlk tz ca cb hka hget hjl hb
                by_cases hd : b.d = 0
                · rw [if_pos hd] at HG
                  simp only [Option.getD_some, Option.isSome_some] at HG
                  go_wp2_with (go_at_call 11; (with_reducible refine HG.out.mono ?_); rintro e w7 ⟨rfl, h7⟩; have H7 := Lib.hid h7; obtain ⟨z0, z1, z2, z3, z4⟩ := HC.out _ h7; clear h7)
                  rw [HJw.out]
                  exact ⟨⟨i + 1, HJ.out, rfl, Lib.hid (HT5.out.trans H7.out)⟩, HJm.out⟩
                · rw [if_neg hd] at HG
                  simp only [Option.getD_none, Option.isSome_none] at HG
                  go_wp2_with (go_at_call 11; (with_reducible refine HG.out.mono ?_); rintro e w7 ⟨rfl, h7⟩; have H7 := Lib.hid h7; obtain ⟨z0, z1, z2, z3, z4⟩ := HC.out _ h7; clear h7)
                  rw [HJw.out]
                  exact ⟨⟨i + 1, HJ.out, rfl, Lib.hid (HT5.out.trans H7.out)⟩, HJm.out⟩
          · obtain rfl : i = L.length := by omega
            have q2 : ¬ (L.length : Int) < (L.length : Int) := by omega
            have HQ2 := Lib.hid (And.intro (HQ.out.1.no HI.out) (HQ.out.2.2.2.trans HI.out))
            have HI7 := HI
            clear hlt hi HI HIJ
            go_wp2_with fail
            rename World => w7
            obtain ⟨F, hF⟩ : ∃ F, flatT T = F := ⟨_, rfl⟩
            have HF : Hid (flatT T = F ∧ F.length ≤ L.length ∧ (∀ p ∈ F, p.k.size ≤ 40000 ∧ p.v.size ≤ 40000) ∧ Asc F) := Lib.hid ⟨hF, by
              rw [← hF, HQ.out.2.1]
              have := foldA_len L []
              unfold doneL
              simpa using this, by rw [← hF, HQ.out.2.1]; exact (doneL_sm HSM.out).2, by rw [← hF]; exact HQ.out.1.asc⟩
            have HB : Hid (del = false → (leaves T).length = 1 ∨ 2 * (leaves T).length ≤ F.length) := Lib.hid fun h => by rw [← hF]; exact HQ.out.1.few (HQ.out.2.2.1 h)
            have HSZ : Hid (T.flatten.length + 1 ≤ 2 * (leaves T).length ∧ T.length ≤ (leaves T).length ∧ 2 ^ (T.length - 1) ≤ (leaves T).length ∧ T.flatten.length ≤ 4096) := Lib.hid (by
              obtain ⟨N, root, G, fr, k1, k2, k3⟩ := HQ.out.1
              obtain ⟨z1, z2, z3⟩ := good_size k2
              exact ⟨z1, z2, z3, k1.len⟩)
            have HTR : Hid (∃ N root, ∀ W, Turn No w5 W → Tr W I N T root) := Lib.hid (by
              obtain ⟨N, root, h1, h2⟩ := HQ.out.1.tr
              exact ⟨N, root, fun W t => h1.no t⟩)
            obtain ⟨N, root, hTR⟩ := HTR.out
            have HTS := Lib.hid hTR
            have HT7 : Hid (Turn No w5 w7) := Lib.hid HI7.out
            clear hF hTR HTR
            go_loopw [21, 22, 23] (fun n k f wr => ∃ (m : Nat), m ≤ F.length ∧ n = .int .i64 (m : Int) ∧ k = .string (kAt F m) ∧ f = .bool (decide (0 < m)) ∧ Hid (Turn No w7 wr)) (fun n k f _ => F.length + 1 - (RowKit.intOf n).toNat)
            case atStart => exact ⟨0, Nat.zero_le _, rfl, rfl, rfl, Lib.hid (Turn.refl _ _)⟩
            case round =>
              obtain ⟨m, hm, rfl, rfl, rfl, HJ⟩ := hrel
              have HMF : Hid (m ≤ F.length) := Lib.hid hm
              have t0 : Turn No wr (wr.alloc (.cells #[.int .i64 0] 3)) := (Turn.refl _ _).alloc _
              have ct0 : Ctr wr wr.heap.size 0 (wr.alloc (.cells #[.int .i64 0] 3)) := ⟨by rw [show wrap64 ((0 : Nat) : Int) = 0 from by simp [wrap64]]; exact At.new wr (.cells #[.int .i64 0] 3), t0, Nat.le_refl _⟩
              have CN := Lib.hid (bnext_fix (lookf_ctr (vb := wr.heap.size) (HTS.out wr (HT7.out.trans HJ.out)) HSZ.out.2.2.2) (a := 0) ct0 (kAt F m) (decide (0 < m)) (by have := kAt_size (fun p hp => (HF.out.2.2.1 p hp).1) m; omega))
              have hnx := nxR_at HF.out.2.2.2 hm
              have HNX : Hid (nxR (flatT T) (kAt F m) (decide (0 < m)) = F[m]?) := Lib.hid (by rw [HF.out.1]; exact hnx)
              have KG := Lib.hid fun W (t : Turn No w7 W) (k : ByteArray) (fk : Fit k) => tq_get (HQ2.out.1.no t) k fk
              have KL := Lib.hid fun W (t : Turn No w7 W) => tq_len (HQ2.out.1.no t)
              have KS := Lib.hid fun W (t : Turn No w7 W) => tq_slots (HQ2.out.1.no t)
              have KV := Lib.hid fun W (t : Turn No w7 W) => tq_live (HQ2.out.1.no t)
              have KC := Lib.hid fun W (t : Turn No w7 W) => tq_check (HQ2.out.1.no t)
              rw [HF.out.1] at KG KL
              have KM := Lib.hid fun W => most_any F.length (by have := HF.out.2.1; have := HSM.out.n; omega) W
              clear t0 ct0 hnx hm
              go_wp2_with fail
              refine CN.out.mono ?_
              rintro e w8 ⟨b, r, k1, k2, k3, rfl⟩
              rw [HNX.out] at k3
              subst k3
              obtain ⟨vb, hvb⟩ : ∃ x, wr.heap.size = x := ⟨_, rfl⟩
              rw [hvb] at k1 ⊢
              have HT8 : Hid (Turn No w7 w8) := Lib.hid (HJ.out.trans k1.tu)
              have HCY := Lib.hid fun W (t : Turn No w8 W) => (show W.cell? ⟨vb, 0, none⟩ = some (.int .i64 (wrap64 (b : Int))) from by simpa using At.cell (k1.no t).c 0)
              have HBK : Hid (del = false → b ≤ 4098) := Lib.hid fun h => by have := k2 (HQ.out.2.2.1 h); have := HSZ.out.2.1; have := HSZ.out.1; have := HSZ.out.2.2.2; have := leaves_len (T := T); omega
              have HK2 : Hid (del = false → ∀ rr, Most F.length rr → b ≤ rr) := Lib.hid fun h rr hr => by
                have h1 := k2 (HQ.out.2.2.1 h)
                have h2 := HSZ.out
                rcases HB.out h with h3 | h3
                · have h4 := hr.two
                  omega
                · have h4 := hr.le (t := T.length) (.inr (by
                    have h5 := h2.2.2.1
                    cases hTl : T.length with
                    | zero => show 1 ≤ F.length; omega
                    | succ q =>
                      rw [hTl, Nat.add_sub_cancel] at h5
                      rw [Nat.pow_succ]
                      omega))
                  omega
              have lv8 := k1.c.lt
              clear k1 k2 hvb
              cases hp : F[m]? with
              | none =>
                obtain rfl : m = F.length := by
                  have := HMF.out
                  have := List.getElem?_eq_none_iff.1 hp
                  omega
                have hF3 : Hid (F.length ≤ 300) := Lib.hid (by have := HF.out.2.1; have := HSM.out.n; omega)
                have hw2 : wrap64 ((F.length : Int) + 2) = (F.length : Int) + 2 := by have := hF3.out; simp only [wrap64]; omega
                obtain ⟨sl, hsl⟩ : ∃ x, T.flatten.length = x := ⟨_, rfl⟩
                rw [hsl] at KS KV HSZ
                unfold nx4
                cases del with
                | true =>
                  clear HBK HK2 HCY HB
                  have hdt : (!true) = false := rfl
                  go_upto_region 39 with fail
                  go_quiet (fail)
                  have H9 : Hid (Turn No w7 (w8.drewN nq)) := Lib.hid (HT8.out.trans ((Turn.refl No _).drewN nq))
                  go_wp2_with (first
                    | (go_at_call 22; (with_reducible refine (KL.out _ H9.out).mono ?_); rintro e wx ⟨rfl, hx⟩; replace H9 := Lib.hid (H9.out.trans hx); clear hx)
                    | (go_at_call 16; (with_reducible refine (KC.out _ H9.out).mono ?_); rintro e wx ⟨rfl, hx⟩; replace H9 := Lib.hid (H9.out.trans hx); clear hx)
                    | (go_at_call 23; (with_reducible refine (KS.out _ H9.out).mono ?_); rintro e wx ⟨rfl, hx⟩; replace H9 := Lib.hid (H9.out.trans hx); clear hx)
                    | (go_at_call 24; (with_reducible refine (KV.out _ H9.out).mono ?_); rintro e wx ⟨rfl, hx⟩; replace H9 := Lib.hid (H9.out.trans hx); clear hx))
                  go_ret
                  exact ⟨rfl, HQ2.out.2.trans H9.out⟩
                | false =>
                  have q9 : (sl : Int) ≤ (F.length : Int) + 2 := by have := HSZ.out; rcases HB.out rfl with h | h <;> omega
                  have hbs : wrap64 (b : Int) = (b : Int) := by have := HBK.out rfl; simp only [wrap64]; omega
                  rw [hbs] at HCY
                  clear hbs
                  have y0 := HCY.out w8 (Turn.refl _ _)
                  go_upto_region 39 with fail
                  go_region_held3 (fun W => W.cell? ⟨vb, 0, none⟩ = some (.int .i64 (b : Int))) (first | (exact HCY.out _ (by first | assumption | exact (Turn.refl No _).drew))) (first | (go_at_call 22; (with_reducible refine (KL.out _ (HT8.out.trans (Turn.refl No _).drew)).mono ?_); rintro e w9 ⟨rfl, h9⟩; have h9 : Turn No w8 w9 := (Turn.refl No w8).drew.trans h9) | (go_at_call 21; refine (KM.out _).mono ?_; rintro e wm ⟨rr, rfl, hr, hw⟩; rw [hw]; clear hw; have hq : ¬ (rr : Int) < (b : Int) := by have := HK2.out (by first | rfl | trivial) rr hr; omega))
                  all_goals
                    have H9 := Lib.hid (HT8.out.trans h9)
                    clear h9 y0
                    go_wp2_with (first
                      | (go_at_call 22; (with_reducible refine (KL.out _ H9.out).mono ?_); rintro e wx ⟨rfl, hx⟩; replace H9 := Lib.hid (H9.out.trans hx); clear hx)
                      | (go_at_call 16; (with_reducible refine (KC.out _ H9.out).mono ?_); rintro e wx ⟨rfl, hx⟩; replace H9 := Lib.hid (H9.out.trans hx); clear hx)
                      | (go_at_call 23; (with_reducible refine (KS.out _ H9.out).mono ?_); rintro e wx ⟨rfl, hx⟩; replace H9 := Lib.hid (H9.out.trans hx); clear hx)
                      | (go_at_call 24; (with_reducible refine (KV.out _ H9.out).mono ?_); rintro e wx ⟨rfl, hx⟩; replace H9 := Lib.hid (H9.out.trans hx); clear hx))
                    go_ret
                    exact ⟨rfl, HQ2.out.2.trans H9.out⟩
              | some p =>
                have hml : m < F.length := (List.getElem?_eq_some_iff.1 hp).1
                have hmem := List.mem_of_getElem? hp
                have KP := Lib.hid fun W (t : Turn No w7 W) => KG.out W t p.k (fit_of (HF.out.2.2.1 p hmem).1)
                have hg := HF.out.2.2.2.get_of_mem (k := p.k) (v := p.v) hmem
                rw [hg] at KP
                simp only [Option.getD_some, Option.isSome_some] at KP
                have HKN := Lib.hid (kAt_next hp)
                have HKB := Lib.hid fun h0 => kAt_below HF.out.2.2.2 hp h0
                have HML : Hid (m < F.length) := Lib.hid hml
                have q3 : ¬ (L.length : Int) < (m : Int) := by have := HF.out.2.1; omega
                have qv := bytes_beq p.v p.v
                rw [decide_eq_true rfl] at qv
                have HJw : Hid (Value.int .i64 (wrap64 ((m : Int) + 1)) = Value.int .i64 ((m + 1 : Nat) : Int)) := Lib.hid (by have := HF.out.2.1; have := HSM.out.n; rw [show wrap64 ((m : Int) + 1) = ((m + 1 : Nat) : Int) by simp only [wrap64]; omega])
                obtain ⟨ka, hka⟩ : ∃ x, kAt F m = x := ⟨_, rfl⟩
                rw [hka] at HKB ⊢
                obtain ⟨k, v⟩ := p
                simp only at KP HKN HKB qv
                unfold nx4
                clear hml hmem hg hp KG KS KV KC hka
                have HJm : Hid (F.length + 1 - (RowKit.intOf (.int .i64 ((m + 1 : Nat) : Int))).toNat < F.length + 1 - (RowKit.intOf (.int .i64 (m : Int))).toNat) := Lib.hid (by have := HML.out; simp [RowKit.intOf]; omega)
                have HLE : Hid (0 < m → Op.bytesLess k.toList ka.toList = false ∧ (k.toList == ka.toList) = false) := Lib.hid fun h0 => by
                  have h1 := HKB.out h0
                  refine ⟨by rw [sless]; exact decide_eq_false (kl_asymm h1), ?_⟩
                  rw [bytes_beq]
                  exact decide_eq_false fun e => by rw [e] at h1; exact kl_irrefl _ h1
                clear HKB
                by_cases h0 : 0 < m
                · obtain ⟨qb1, qb2⟩ := HLE.out h0
                  rw [decide_eq_true h0]
                  clear h0 HLE
                  cases del with
                  | true =>
                    clear HBK HK2 HCY HB KL KM
                    have hdt : (!true) = false := rfl
                    go_upto_region 39 with fail
                    go_quiet (fail)
                    have H9 : Hid (Turn No w7 (w8.drewN nq)) := Lib.hid (HT8.out.trans ((Turn.refl No _).drewN nq))
                    go_wp2_with (go_at_call 11; (with_reducible refine (KP.out _ H9.out).mono ?_); rintro e wx ⟨rfl, hx⟩; replace H9 := Lib.hid (H9.out.trans hx); clear hx)
                    all_goals first | rw [HJw.out] | rw [show (m : Int) + 1 = ((m + 1 : Nat) : Int) by omega]
                    all_goals exact ⟨⟨m + 1, HML.out, rfl, by rw [HKN.out], by rw [decide_eq_true (Nat.succ_pos m)], Lib.hid H9.out⟩, HJm.out⟩
                  | false =>
                    have hbs : wrap64 (b : Int) = (b : Int) := by have := HBK.out rfl; simp only [wrap64]; omega
                    rw [hbs] at HCY
                    clear hbs
                    have y0 := HCY.out w8 (Turn.refl _ _)
                    go_upto_region 39 with fail
                    go_region_held3 (fun W => W.cell? ⟨vb, 0, none⟩ = some (.int .i64 (b : Int))) (first | (exact HCY.out _ (by first | assumption | exact (Turn.refl No _).drew))) (first | (go_at_call 22; (with_reducible refine (KL.out _ (HT8.out.trans (Turn.refl No _).drew)).mono ?_); rintro e w9 ⟨rfl, h9⟩; have h9 : Turn No w8 w9 := (Turn.refl No w8).drew.trans h9) | (go_at_call 21; refine (KM.out _).mono ?_; rintro e wm ⟨rr, rfl, hr, hw⟩; rw [hw]; clear hw; have hq : ¬ (rr : Int) < (b : Int) := by have := HK2.out (by first | rfl | trivial) rr hr; omega))
                    all_goals
                      have H9 := Lib.hid (HT8.out.trans h9)
                      clear h9 y0
                      go_wp2_with (go_at_call 11; (with_reducible refine (KP.out _ H9.out).mono ?_); rintro e wx ⟨rfl, hx⟩; replace H9 := Lib.hid (H9.out.trans hx); clear hx)
                      all_goals first | rw [HJw.out] | rw [show (m : Int) + 1 = ((m + 1 : Nat) : Int) by omega]
                      all_goals exact ⟨⟨m + 1, HML.out, rfl, by rw [HKN.out], by rw [decide_eq_true (Nat.succ_pos m)], Lib.hid H9.out⟩, HJm.out⟩
                · rw [decide_eq_false h0]
                  clear h0 HLE
                  cases del with
                  | true =>
                    clear HBK HK2 HCY HB KL KM
                    have hdt : (!true) = false := rfl
                    go_upto_region 39 with fail
                    go_quiet (fail)
                    have H9 : Hid (Turn No w7 (w8.drewN nq)) := Lib.hid (HT8.out.trans ((Turn.refl No _).drewN nq))
                    go_wp2_with (go_at_call 11; (with_reducible refine (KP.out _ H9.out).mono ?_); rintro e wx ⟨rfl, hx⟩; replace H9 := Lib.hid (H9.out.trans hx); clear hx)
                    all_goals first | rw [HJw.out] | rw [show (m : Int) + 1 = ((m + 1 : Nat) : Int) by omega]
                    all_goals exact ⟨⟨m + 1, HML.out, rfl, by rw [HKN.out], by rw [decide_eq_true (Nat.succ_pos m)], Lib.hid H9.out⟩, HJm.out⟩
                  | false =>
                    have hbs : wrap64 (b : Int) = (b : Int) := by have := HBK.out rfl; simp only [wrap64]; omega
                    rw [hbs] at HCY
                    clear hbs
                    have y0 := HCY.out w8 (Turn.refl _ _)
                    go_upto_region 39 with fail
                    go_region_held3 (fun W => W.cell? ⟨vb, 0, none⟩ = some (.int .i64 (b : Int))) (first | (exact HCY.out _ (by first | assumption | exact (Turn.refl No _).drew))) (first | (go_at_call 22; (with_reducible refine (KL.out _ (HT8.out.trans (Turn.refl No _).drew)).mono ?_); rintro e w9 ⟨rfl, h9⟩; have h9 : Turn No w8 w9 := (Turn.refl No w8).drew.trans h9) | (go_at_call 21; refine (KM.out _).mono ?_; rintro e wm ⟨rr, rfl, hr, hw⟩; rw [hw]; clear hw; have hq : ¬ (rr : Int) < (b : Int) := by have := HK2.out (by first | rfl | trivial) rr hr; omega))
                    all_goals
                      have H9 := Lib.hid (HT8.out.trans h9)
                      clear h9 y0
                      go_wp2_with (go_at_call 11; (with_reducible refine (KP.out _ H9.out).mono ?_); rintro e wx ⟨rfl, hx⟩; replace H9 := Lib.hid (H9.out.trans hx); clear hx)
                      all_goals first | rw [HJw.out] | rw [show (m : Int) + 1 = ((m + 1 : Nat) : Int) by omega]
                      all_goals exact ⟨⟨m + 1, HML.out, rfl, by rw [HKN.out], by rw [decide_eq_true (Nat.succ_pos m)], Lib.hid H9.out⟩, HJm.out⟩
end Go.Proofs.YtfplnobnmgbgoaaDoor
