/-
  symMerge: the search, and the three calls (m not above the middle).
  SortStableFunc: the row sorted, keys that are alike staying in their order.
-/
import Derived.Test.YtllppkfeiifklaaJ13
import Derived.Test.YtllppkfeiifklaaJ14
namespace Go.Proofs.Ytllppkfeiifklaa
open Go.RowKit Go.Lib
set_option linter.unusedVariables false
set_option maxRecDepth 20000
set_option linter.unusedSimpArgs false

set_option maxRecDepth 100000 in
set_option maxHeartbeats 8000000 in
theorem sym_dn {N : Nat} (ih : SymI N) {w : World} {g cap : Nat} (P A B R : List Pr) (h : Hx w g cap (P ++ A ++ B ++ R)) (hA : Sd A) (hB : Sd B) (l2 : 2 ≤ A.length) (r2 : 2 ≤ B.length) (hN : A.length + B.length ≤ N + 1) (hc : cap ≤ maxLen) {n a m b mid : Nat} (hl : n ≤ 100000) (hn : n = (P ++ A ++ B ++ R).length) (ha : a = P.length) (hm : m = a + A.length) (hb : b = m + B.length) (hmid : (a + b) / 2 = mid) (hside : ¬ mid < m) :
    Calls Try.prog 105 #[.slice (some ⟨g, 0, none⟩) n cap, .int .i64 (a : Int), .int .i64 (m : Int), .int .i64 (b : Int), .func (.func 59) #[] #[]] w fun e w' => e = .returned (.tuple #[]) ∧ Srd w' g cap P (A ++ B) R ∧ Turn (fun k => k = g) w w' := by
  have hfit := h.fits
  rw [← hn] at hfit
  have hn2 := hn
  simp only [List.length_append] at hn2
  obtain ⟨la, hla⟩ : ∃ la, A.length = la := ⟨_, rfl⟩
  obtain ⟨lb, hlb⟩ : ∃ lb, B.length = lb := ⟨_, rfl⟩
  obtain ⟨nn, hnn⟩ : ∃ nn, mid + m = nn := ⟨_, rfl⟩
  obtain ⟨pp, hpp⟩ : ∃ pp, nn - 1 = pp := ⟨_, rfl⟩
  have q1 : (m : Int) - (a : Int) = (la : Int) := by omega
  have q1a : ((la : Int) == 1) = false := by simpa using (by omega : ¬ (la : Int) = 1)
  have q1b : (b : Int) - (m : Int) = (lb : Int) := by omega
  have q1c : ((lb : Int) == 1) = false := by simpa using (by omega : ¬ (lb : Int) = 1)
  have q1d : ((a : Int) + (b : Int)) / 2 = (mid : Int) := by omega
  have q1e : (mid : Int) + (m : Int) = (nn : Int) := by omega
  have q1f : (nn : Int) - 1 = (pp : Int) := by omega
  have q1h : ¬ (mid : Int) < (m : Int) := by omega
  have m1 : a < mid := by omega
  have m2 : mid < b := by omega
  have m3 : b ≤ n := by omega
  have m4 : nn ≤ 200000 := by omega
  have m5 : m ≤ n := by omega
  have m6 : a ≤ m := by omega
  have m7 : m ≤ b := by omega
  have hLO : a ≤ a ∧ a ≤ m ∧ m ≤ m ∧ m ≤ mid ∧ nn ≤ b + a := by omega
  have hloc : a - a = 0 ∨ mid - a = B.length := by omega
  have hhic : m - a = A.length ∨ mid - m = 0 := by omega
  have HC0 : Hid (∀ s e, a ≤ s → s ≤ m → s ≤ mid → e + s = nn → e ≤ b → Cu P A B R n a m b mid s e) := Lib.hid fun s e h1 h2 h3 h4 h5 => ⟨hn, hl, ha, hm, hb, l2, r2, by omega, by omega, h1, h2, h3, by omega, h5⟩
  have HFO : Hid (∀ s, Lo A B a mid a s → Hi A B a mid m s → Fo A B a mid s) := Lib.hid fun s h1 h2 => fo_of h1 h2 hloc hhic
  have HQ := Lib.hid (And.intro ha (And.intro hm (And.intro hb (And.intro hla (And.intro hlb (And.intro hmid (And.intro hnn (And.intro hpp hLO))))))))
  have HX : Hid (Hx w g cap (P ++ A ++ B ++ R) ∧ Sd A ∧ Sd B) := Lib.hid ⟨h, hA, hB⟩
  have C28 := Lib.hid cmp28_any
  have H0 : Hid (Lo A B a mid a a ∧ Hi A B a mid m m ∧ Turn No w w) := Lib.hid ⟨⟨.inl rfl⟩, ⟨.inl rfl⟩, Turn.refl _ _⟩
  have HCc := Lib.hid hc
  have HN := Lib.hid (And.intro ih hN)
  have k1 : a ≤ a := by omega
  have k2 : m ≤ mid := by omega
  have k3 : m ≤ m := by omega
  have k4 : nn ≤ b + a := by omega
  have k5 : a ≤ m := by omega
  have k6 : m ≤ pp := by omega
  have k7 : pp ≤ nn := by omega
  unfold maxLen at hc
  clear h hA hB hn hn2 ha hm hb hla hlb hmid hnn hpp hloc hhic hLO l2 r2 ih hN
  go_enter Try.func105, Try.ntmps105
  go_wp2_with fail
  go_loopw [20, 21] (fun i j wr => ∃ ii jj : Nat, a ≤ ii ∧ ii ≤ jj ∧ jj ≤ m ∧ i = .int .i64 (ii : Int) ∧ j = .int .i64 (jj : Int) ∧ Hid (Lo A B a mid a ii ∧ Hi A B a mid m jj ∧ Turn No w wr)) (fun i j _ => (RowKit.intOf j).toNat - (RowKit.intOf i).toNat)
  case atStart => exact ⟨a, m, Nat.le_refl _, by omega, Nat.le_refl _, rfl, rfl, H0⟩
  case round =>
    obtain ⟨ii, jj, h1, h2, h3, rfl, rfl, HP⟩ := hrel
    clear H0
    by_cases hlt : ii < jj
    · obtain ⟨hh, hhe⟩ : ∃ hh, (ii + jj) / 2 = hh := ⟨_, rfl⟩
      obtain ⟨pc, hpc⟩ : ∃ pc, pp - hh = pc := ⟨_, rfl⟩
      have b1 : ii ≤ hh := by omega
      have b2 : hh < jj := by omega
      have b3 : m ≤ pc := by have := HQ.out; omega
      have b4 : pc < b := by have := HQ.out; omega
      have b5 : hh < m := by omega
      have b6 : a ≤ hh := by omega
      have q2 : ((ii : Int) + (jj : Int)) / 2 = (hh : Int) := by omega
      have q3 : (0 : Int) ≤ (hh : Int) := by omega
      have q4 : (hh : Int) < (n : Int) := by omega
      have q5 : (pp : Int) - (hh : Int) = (pc : Int) := by have := HQ.out; omega
      have q6 : (0 : Int) ≤ (pc : Int) := by omega
      have q7 : (pc : Int) < (n : Int) := by omega
      have q8 : IntKind.i64.wrap (pc : Int) = (pc : Int) := by rw [IntKind.wrap_i64]; omega
      have q9 : IntKind.i64.wrap ((pp : Int) - (hh : Int)) = (pc : Int) := by rw [q5, q8]
      obtain ⟨p, hp⟩ : ∃ p, A[hh - a]? = some p := ⟨A[hh - a]'(by have := HQ.out; omega), List.getElem?_eq_getElem (by have := HQ.out; omega)⟩
      obtain ⟨x, hx⟩ : ∃ x, B[mid - 1 - hh]? = some x := ⟨B[mid - 1 - hh]'(by have := HQ.out; omega), List.getElem?_eq_getElem (by have := HQ.out; omega)⟩
      have hpl := at_a (P := P) (B := B) (R := R) hp
      rw [show P.length + (hh - a) = hh by have := HQ.out; omega] at hpl
      have hxl := at_b (P := P) (A := A) (R := R) hx
      rw [show P.length + A.length + (mid - 1 - hh) = pc by have := HQ.out; omega] at hxl
      have HU : Hid ((¬ kl x.k p.k → Lo A B a mid a (hh + 1)) ∧ (kl x.k p.k → Hi A B a mid m hh) ∧ Lo A B a mid a ii ∧ Hi A B a mid m jj ∧ Turn No w wr) := Lib.hid ⟨fun hk => Lo.up hp hx hk, fun hk => Hi.down hp hx hk, HP.out⟩
      obtain ⟨pk, pv⟩ := p
      obtain ⟨xk, xv⟩ := x
      have HC : Hid (∀ w2, Turn No wr w2 → w2.cell? ⟨g, pc * 2, none⟩ = some (.string xk) ∧ w2.cell? ⟨g, pc * 2 + 1, none⟩ = some (.string xv) ∧ w2.cell? ⟨g, hh * 2, none⟩ = some (.string pk) ∧ w2.cell? ⟨g, hh * 2 + 1, none⟩ = some (.string pv)) := Lib.hid fun w2 t => ⟨(((HX.out.1.no HP.out.2.2).no t).cells hxl).1, (((HX.out.1.no HP.out.2.2).no t).cells hxl).2, (((HX.out.1.no HP.out.2.2).no t).cells hpl).1, (((HX.out.1.no HP.out.2.2).no t).cells hpl).2⟩
      have x0 := (HC.out wr (Turn.refl _ _)).1
      have x1 := (HC.out wr (Turn.refl _ _)).2.1
      have x2 := (HC.out wr (Turn.refl _ _)).2.2.1
      have x3 := (HC.out wr (Turn.refl _ _)).2.2.2
      have HE := Lib.hid (And.intro hhe hpc)
      clear hhe hpc HP hp hpl hx hxl
      by_cases hk : kcmp xk pk < 0
      · have hkd : decide (kcmp xk pk < 0) = true := decide_eq_true hk
        have HM := Lib.hid (HU.out.2.1 hk)
        clear hk
        go_wp2_with fail
        have hS0 : wr.drew.cell? ⟨g, pc * 2, none⟩ = some (.string xk) ∧ wr.drew.cell? ⟨g, pc * 2 + 1, none⟩ = some (.string xv) ∧ wr.drew.cell? ⟨g, hh * 2, none⟩ = some (.string pk) ∧ wr.drew.cell? ⟨g, hh * 2 + 1, none⟩ = some (.string pv) := ⟨by simpa using x0, by simpa using x1, by simpa using x2, by simpa using x3⟩
        have hS1 : Hid (∀ w2, Turn No wr w2 → w2.cell? ⟨g, pc * 2, none⟩ = some (.string xk) ∧ w2.cell? ⟨g, pc * 2 + 1, none⟩ = some (.string xv) ∧ w2.cell? ⟨g, hh * 2, none⟩ = some (.string pk) ∧ w2.cell? ⟨g, hh * 2 + 1, none⟩ = some (.string pv)) := Lib.hid fun w2 t => HC.out w2 t
        go_region_held3 (fun W => W.cell? ⟨g, pc * 2, none⟩ = some (.string xk) ∧ W.cell? ⟨g, pc * 2 + 1, none⟩ = some (.string xv) ∧ W.cell? ⟨g, hh * 2, none⟩ = some (.string pk) ∧ W.cell? ⟨g, hh * 2 + 1, none⟩ = some (.string pv)) (first | (with_reducible exact hS0) | (with_reducible exact hS1.out _ HT2.out)) (first | (go_at_call 59; (with_reducible refine (C28.out xk xv pk pv _).mono ?_); rintro e w2 ⟨rfl, ht⟩; have HT2 : Hid (Turn No wr w2) := Lib.hid (((Turn.refl No wr).drewN _).trans ht); clear ht))
        clear hS0 hS1 x0 x1 x2 x3 HC
        go_wp2_with fail
        exact ⟨⟨ii, hh, by omega, by omega, by omega, rfl, by go_num, Lib.hid ⟨HU.out.2.2.1, HM.out, HU.out.2.2.2.2.trans HT2.out⟩⟩, by simp [RowKit.intOf]; omega⟩
      · have hkd : decide (kcmp xk pk < 0) = false := decide_eq_false hk
        have HM := Lib.hid (HU.out.1 hk)
        clear hk
        go_wp2_with fail
        have hS0 : wr.drew.cell? ⟨g, pc * 2, none⟩ = some (.string xk) ∧ wr.drew.cell? ⟨g, pc * 2 + 1, none⟩ = some (.string xv) ∧ wr.drew.cell? ⟨g, hh * 2, none⟩ = some (.string pk) ∧ wr.drew.cell? ⟨g, hh * 2 + 1, none⟩ = some (.string pv) := ⟨by simpa using x0, by simpa using x1, by simpa using x2, by simpa using x3⟩
        have hS1 : Hid (∀ w2, Turn No wr w2 → w2.cell? ⟨g, pc * 2, none⟩ = some (.string xk) ∧ w2.cell? ⟨g, pc * 2 + 1, none⟩ = some (.string xv) ∧ w2.cell? ⟨g, hh * 2, none⟩ = some (.string pk) ∧ w2.cell? ⟨g, hh * 2 + 1, none⟩ = some (.string pv)) := Lib.hid fun w2 t => HC.out w2 t
        go_region_held3 (fun W => W.cell? ⟨g, pc * 2, none⟩ = some (.string xk) ∧ W.cell? ⟨g, pc * 2 + 1, none⟩ = some (.string xv) ∧ W.cell? ⟨g, hh * 2, none⟩ = some (.string pk) ∧ W.cell? ⟨g, hh * 2 + 1, none⟩ = some (.string pv)) (first | (with_reducible exact hS0) | (with_reducible exact hS1.out _ HT2.out)) (first | (go_at_call 59; (with_reducible refine (C28.out xk xv pk pv _).mono ?_); rintro e w2 ⟨rfl, ht⟩; have HT2 : Hid (Turn No wr w2) := Lib.hid (((Turn.refl No wr).drewN _).trans ht); clear ht))
        clear hS0 hS1 x0 x1 x2 x3 HC
        go_wp2_with fail
        exact ⟨⟨hh + 1, jj, by omega, by omega, h3, by go_num, rfl, Lib.hid ⟨HM.out, HU.out.2.2.2.1, HU.out.2.2.2.2.trans HT2.out⟩⟩, by simp [RowKit.intOf]; omega⟩
    · obtain rfl : ii = jj := by omega
      obtain ⟨e, he⟩ : ∃ e, nn - ii = e := ⟨_, rfl⟩
      have HF := Lib.hid (HFO.out ii HP.out.1 HP.out.2.1)
      have HK := Lib.hid (HC0.out ii e (by omega) (by omega) (by omega) (by have := HQ.out; omega) (by omega))
      have HW : Hid (Hx wr g cap (P ++ A ++ B ++ R) ∧ Turn (fun k => k = g) w wr) := Lib.hid ⟨HX.out.1.no HP.out.2.2, HP.out.2.2.mono fun _ _ h => h.elim⟩
      have q2 : (nn : Int) - (ii : Int) = (e : Int) := by have := HQ.out; omega
      have r1 : e ≤ b := by omega
      have r2 : ii ≤ m := by omega
      have r3 : a ≤ ii := by omega
      have r4 : ii ≤ mid := by omega
      clear HP he HFO HC0
      by_cases c1 : ii < m ∧ m < e
      · have C1 := Lib.hid (HK.out.rot HCc.out c1.1 c1.2 HW.out.1 fv28)
        have u1 : (ii : Int) < (m : Int) := by omega
        have u2 : (m : Int) < (e : Int) := by omega
        clear c1
        go_upto_region 41 with (go_at_call 111; (with_reducible refine C1.out.mono ?_); rintro e1 w1 ⟨rfl, y1, y2⟩; have H1 := Lib.hid (And.intro y1 (HW.out.2.trans y2)); clear y1 y2)
        clear C1 HW
        by_cases c2 : a < ii ∧ ii < mid
        · have C2 := Lib.hid (HK.out.left HN.out.1 HN.out.2 HX.out.2.1 HX.out.2.2 HCc.out c2.1 c2.2 H1.out.1)
          have t1 : (a : Int) < (ii : Int) := by omega
          have t2 : (ii : Int) < (mid : Int) := by omega
          clear c2
          go_upto_region 43 with (go_at_call 105; (with_reducible refine C2.out.mono ?_); rintro e2 w2 ⟨rfl, y1, y2⟩; have H2 := Lib.hid (And.intro y1 (H1.out.2.trans y2)); clear y1 y2)
          clear C2 H1
          by_cases c3 : mid < e ∧ e < b
          · have C3 := Lib.hid (HK.out.right HN.out.1 HN.out.2 HX.out.2.1 HX.out.2.2 HF.out HCc.out c3.1 c3.2 H2.out.1)
            have s1 : (mid : Int) < (e : Int) := by omega
            have s2 : (e : Int) < (b : Int) := by omega
            clear c3
            go_wp2_with (go_at_call 105; (with_reducible refine C3.out.mono ?_); rintro e3 w3 ⟨rfl, y1, y2⟩; have H3 := Lib.hid (And.intro y1 y2); clear y1 y2)
            go_end0
            exact ⟨rfl, H3.out.1, H2.out.2.trans H3.out.2⟩
          · have H3 := Lib.hid (HK.out.noright HX.out.2.1 HX.out.2.2 HF.out c3 H2.out.1)
            by_cases c4 : mid < e
            · have s1 : (mid : Int) < (e : Int) := by omega
              have s2 : ¬ (e : Int) < (b : Int) := by omega
              clear c3 c4
              go_wp2_with fail
              go_end0
              exact ⟨rfl, H3.out, H2.out.2⟩
            · have s1 : ¬ (mid : Int) < (e : Int) := by omega
              clear c3 c4
              go_wp2_with fail
              go_end0
              exact ⟨rfl, H3.out, H2.out.2⟩
        · have H2 : Hid (Srd w1 g cap P (L1 A B a mid ii) (R1 A B R a mid ii) ∧ Turn (fun k => k = g) w w1) := Lib.hid ⟨HK.out.noleft HX.out.2.1 HX.out.2.2 c2 H1.out.1, H1.out.2⟩
          by_cases c5 : a < ii
          · have t1 : (a : Int) < (ii : Int) := by omega
            have t2 : ¬ (ii : Int) < (mid : Int) := by omega
            clear c2 c5 H1
            by_cases c3 : mid < e ∧ e < b
            · have C3 := Lib.hid (HK.out.right HN.out.1 HN.out.2 HX.out.2.1 HX.out.2.2 HF.out HCc.out c3.1 c3.2 H2.out.1)
              have s1 : (mid : Int) < (e : Int) := by omega
              have s2 : (e : Int) < (b : Int) := by omega
              clear c3
              go_wp2_with (go_at_call 105; (with_reducible refine C3.out.mono ?_); rintro e3 w3 ⟨rfl, y1, y2⟩; have H3 := Lib.hid (And.intro y1 y2); clear y1 y2)
              go_end0
              exact ⟨rfl, H3.out.1, H2.out.2.trans H3.out.2⟩
            · have H3 := Lib.hid (HK.out.noright HX.out.2.1 HX.out.2.2 HF.out c3 H2.out.1)
              by_cases c4 : mid < e
              · have s1 : (mid : Int) < (e : Int) := by omega
                have s2 : ¬ (e : Int) < (b : Int) := by omega
                clear c3 c4
                go_wp2_with fail
                go_end0
                exact ⟨rfl, H3.out, H2.out.2⟩
              · have s1 : ¬ (mid : Int) < (e : Int) := by omega
                clear c3 c4
                go_wp2_with fail
                go_end0
                exact ⟨rfl, H3.out, H2.out.2⟩
          · have t1 : ¬ (a : Int) < (ii : Int) := by omega
            clear c2 c5 H1
            by_cases c3 : mid < e ∧ e < b
            · have C3 := Lib.hid (HK.out.right HN.out.1 HN.out.2 HX.out.2.1 HX.out.2.2 HF.out HCc.out c3.1 c3.2 H2.out.1)
              have s1 : (mid : Int) < (e : Int) := by omega
              have s2 : (e : Int) < (b : Int) := by omega
              clear c3
              go_wp2_with (go_at_call 105; (with_reducible refine C3.out.mono ?_); rintro e3 w3 ⟨rfl, y1, y2⟩; have H3 := Lib.hid (And.intro y1 y2); clear y1 y2)
              go_end0
              exact ⟨rfl, H3.out.1, H2.out.2.trans H3.out.2⟩
            · have H3 := Lib.hid (HK.out.noright HX.out.2.1 HX.out.2.2 HF.out c3 H2.out.1)
              by_cases c4 : mid < e
              · have s1 : (mid : Int) < (e : Int) := by omega
                have s2 : ¬ (e : Int) < (b : Int) := by omega
                clear c3 c4
                go_wp2_with fail
                go_end0
                exact ⟨rfl, H3.out, H2.out.2⟩
              · have s1 : ¬ (mid : Int) < (e : Int) := by omega
                clear c3 c4
                go_wp2_with fail
                go_end0
                exact ⟨rfl, H3.out, H2.out.2⟩
      · have H1 : Hid (Hx wr g cap (P ++ L1 A B a mid ii ++ R1 A B R a mid ii) ∧ Turn (fun k => k = g) w wr) := Lib.hid ⟨HK.out.norot c1 HW.out.1, HW.out.2⟩
        by_cases c6 : ii < m
        · have u1 : (ii : Int) < (m : Int) := by omega
          have u2 : ¬ (m : Int) < (e : Int) := by omega
          clear c1 c6 HW
          by_cases c2 : a < ii ∧ ii < mid
          · have C2 := Lib.hid (HK.out.left HN.out.1 HN.out.2 HX.out.2.1 HX.out.2.2 HCc.out c2.1 c2.2 H1.out.1)
            have t1 : (a : Int) < (ii : Int) := by omega
            have t2 : (ii : Int) < (mid : Int) := by omega
            clear c2
            go_upto_region 43 with (go_at_call 105; (with_reducible refine C2.out.mono ?_); rintro e2 w2 ⟨rfl, y1, y2⟩; have H2 := Lib.hid (And.intro y1 (H1.out.2.trans y2)); clear y1 y2)
            clear C2 H1
            by_cases c3 : mid < e ∧ e < b
            · have C3 := Lib.hid (HK.out.right HN.out.1 HN.out.2 HX.out.2.1 HX.out.2.2 HF.out HCc.out c3.1 c3.2 H2.out.1)
              have s1 : (mid : Int) < (e : Int) := by omega
              have s2 : (e : Int) < (b : Int) := by omega
              clear c3
              go_wp2_with (go_at_call 105; (with_reducible refine C3.out.mono ?_); rintro e3 w3 ⟨rfl, y1, y2⟩; have H3 := Lib.hid (And.intro y1 y2); clear y1 y2)
              go_end0
              exact ⟨rfl, H3.out.1, H2.out.2.trans H3.out.2⟩
            · have H3 := Lib.hid (HK.out.noright HX.out.2.1 HX.out.2.2 HF.out c3 H2.out.1)
              by_cases c4 : mid < e
              · have s1 : (mid : Int) < (e : Int) := by omega
                have s2 : ¬ (e : Int) < (b : Int) := by omega
                clear c3 c4
                go_wp2_with fail
                go_end0
                exact ⟨rfl, H3.out, H2.out.2⟩
              · have s1 : ¬ (mid : Int) < (e : Int) := by omega
                clear c3 c4
                go_wp2_with fail
                go_end0
                exact ⟨rfl, H3.out, H2.out.2⟩
          · have H2 : Hid (Srd wr g cap P (L1 A B a mid ii) (R1 A B R a mid ii) ∧ Turn (fun k => k = g) w wr) := Lib.hid ⟨HK.out.noleft HX.out.2.1 HX.out.2.2 c2 H1.out.1, H1.out.2⟩
            by_cases c5 : a < ii
            · have t1 : (a : Int) < (ii : Int) := by omega
              have t2 : ¬ (ii : Int) < (mid : Int) := by omega
              clear c2 c5 H1
              by_cases c3 : mid < e ∧ e < b
              · have C3 := Lib.hid (HK.out.right HN.out.1 HN.out.2 HX.out.2.1 HX.out.2.2 HF.out HCc.out c3.1 c3.2 H2.out.1)
                have s1 : (mid : Int) < (e : Int) := by omega
                have s2 : (e : Int) < (b : Int) := by omega
                clear c3
                go_wp2_with (go_at_call 105; (with_reducible refine C3.out.mono ?_); rintro e3 w3 ⟨rfl, y1, y2⟩; have H3 := Lib.hid (And.intro y1 y2); clear y1 y2)
                go_end0
                exact ⟨rfl, H3.out.1, H2.out.2.trans H3.out.2⟩
              · have H3 := Lib.hid (HK.out.noright HX.out.2.1 HX.out.2.2 HF.out c3 H2.out.1)
                by_cases c4 : mid < e
                · have s1 : (mid : Int) < (e : Int) := by omega
                  have s2 : ¬ (e : Int) < (b : Int) := by omega
                  clear c3 c4
                  go_wp2_with fail
                  go_end0
                  exact ⟨rfl, H3.out, H2.out.2⟩
                · have s1 : ¬ (mid : Int) < (e : Int) := by omega
                  clear c3 c4
                  go_wp2_with fail
                  go_end0
                  exact ⟨rfl, H3.out, H2.out.2⟩
            · have t1 : ¬ (a : Int) < (ii : Int) := by omega
              clear c2 c5 H1
              by_cases c3 : mid < e ∧ e < b
              · have C3 := Lib.hid (HK.out.right HN.out.1 HN.out.2 HX.out.2.1 HX.out.2.2 HF.out HCc.out c3.1 c3.2 H2.out.1)
                have s1 : (mid : Int) < (e : Int) := by omega
                have s2 : (e : Int) < (b : Int) := by omega
                clear c3
                go_wp2_with (go_at_call 105; (with_reducible refine C3.out.mono ?_); rintro e3 w3 ⟨rfl, y1, y2⟩; have H3 := Lib.hid (And.intro y1 y2); clear y1 y2)
                go_end0
                exact ⟨rfl, H3.out.1, H2.out.2.trans H3.out.2⟩
              · have H3 := Lib.hid (HK.out.noright HX.out.2.1 HX.out.2.2 HF.out c3 H2.out.1)
                by_cases c4 : mid < e
                · have s1 : (mid : Int) < (e : Int) := by omega
                  have s2 : ¬ (e : Int) < (b : Int) := by omega
                  clear c3 c4
                  go_wp2_with fail
                  go_end0
                  exact ⟨rfl, H3.out, H2.out.2⟩
                · have s1 : ¬ (mid : Int) < (e : Int) := by omega
                  clear c3 c4
                  go_wp2_with fail
                  go_end0
                  exact ⟨rfl, H3.out, H2.out.2⟩
        · have u1 : ¬ (ii : Int) < (m : Int) := by omega
          clear c1 c6 HW
          by_cases c2 : a < ii ∧ ii < mid
          · have C2 := Lib.hid (HK.out.left HN.out.1 HN.out.2 HX.out.2.1 HX.out.2.2 HCc.out c2.1 c2.2 H1.out.1)
            have t1 : (a : Int) < (ii : Int) := by omega
            have t2 : (ii : Int) < (mid : Int) := by omega
            clear c2
            go_upto_region 43 with (go_at_call 105; (with_reducible refine C2.out.mono ?_); rintro e2 w2 ⟨rfl, y1, y2⟩; have H2 := Lib.hid (And.intro y1 (H1.out.2.trans y2)); clear y1 y2)
            clear C2 H1
            by_cases c3 : mid < e ∧ e < b
            · have C3 := Lib.hid (HK.out.right HN.out.1 HN.out.2 HX.out.2.1 HX.out.2.2 HF.out HCc.out c3.1 c3.2 H2.out.1)
              have s1 : (mid : Int) < (e : Int) := by omega
              have s2 : (e : Int) < (b : Int) := by omega
              clear c3
              go_wp2_with (go_at_call 105; (with_reducible refine C3.out.mono ?_); rintro e3 w3 ⟨rfl, y1, y2⟩; have H3 := Lib.hid (And.intro y1 y2); clear y1 y2)
              go_end0
              exact ⟨rfl, H3.out.1, H2.out.2.trans H3.out.2⟩
            · have H3 := Lib.hid (HK.out.noright HX.out.2.1 HX.out.2.2 HF.out c3 H2.out.1)
              by_cases c4 : mid < e
              · have s1 : (mid : Int) < (e : Int) := by omega
                have s2 : ¬ (e : Int) < (b : Int) := by omega
                clear c3 c4
                go_wp2_with fail
                go_end0
                exact ⟨rfl, H3.out, H2.out.2⟩
              · have s1 : ¬ (mid : Int) < (e : Int) := by omega
                clear c3 c4
                go_wp2_with fail
                go_end0
                exact ⟨rfl, H3.out, H2.out.2⟩
          · have H2 : Hid (Srd wr g cap P (L1 A B a mid ii) (R1 A B R a mid ii) ∧ Turn (fun k => k = g) w wr) := Lib.hid ⟨HK.out.noleft HX.out.2.1 HX.out.2.2 c2 H1.out.1, H1.out.2⟩
            by_cases c5 : a < ii
            · have t1 : (a : Int) < (ii : Int) := by omega
              have t2 : ¬ (ii : Int) < (mid : Int) := by omega
              clear c2 c5 H1
              by_cases c3 : mid < e ∧ e < b
              · have C3 := Lib.hid (HK.out.right HN.out.1 HN.out.2 HX.out.2.1 HX.out.2.2 HF.out HCc.out c3.1 c3.2 H2.out.1)
                have s1 : (mid : Int) < (e : Int) := by omega
                have s2 : (e : Int) < (b : Int) := by omega
                clear c3
                go_wp2_with (go_at_call 105; (with_reducible refine C3.out.mono ?_); rintro e3 w3 ⟨rfl, y1, y2⟩; have H3 := Lib.hid (And.intro y1 y2); clear y1 y2)
                go_end0
                exact ⟨rfl, H3.out.1, H2.out.2.trans H3.out.2⟩
              · have H3 := Lib.hid (HK.out.noright HX.out.2.1 HX.out.2.2 HF.out c3 H2.out.1)
                by_cases c4 : mid < e
                · have s1 : (mid : Int) < (e : Int) := by omega
                  have s2 : ¬ (e : Int) < (b : Int) := by omega
                  clear c3 c4
                  go_wp2_with fail
                  go_end0
                  exact ⟨rfl, H3.out, H2.out.2⟩
                · have s1 : ¬ (mid : Int) < (e : Int) := by omega
                  clear c3 c4
                  go_wp2_with fail
                  go_end0
                  exact ⟨rfl, H3.out, H2.out.2⟩
            · have t1 : ¬ (a : Int) < (ii : Int) := by omega
              clear c2 c5 H1
              by_cases c3 : mid < e ∧ e < b
              · have C3 := Lib.hid (HK.out.right HN.out.1 HN.out.2 HX.out.2.1 HX.out.2.2 HF.out HCc.out c3.1 c3.2 H2.out.1)
                have s1 : (mid : Int) < (e : Int) := by omega
                have s2 : (e : Int) < (b : Int) := by omega
                clear c3
                go_wp2_with (go_at_call 105; (with_reducible refine C3.out.mono ?_); rintro e3 w3 ⟨rfl, y1, y2⟩; have H3 := Lib.hid (And.intro y1 y2); clear y1 y2)
                go_end0
                exact ⟨rfl, H3.out.1, H2.out.2.trans H3.out.2⟩
              · have H3 := Lib.hid (HK.out.noright HX.out.2.1 HX.out.2.2 HF.out c3 H2.out.1)
                by_cases c4 : mid < e
                · have s1 : (mid : Int) < (e : Int) := by omega
                  have s2 : ¬ (e : Int) < (b : Int) := by omega
                  clear c3 c4
                  go_wp2_with fail
                  go_end0
                  exact ⟨rfl, H3.out, H2.out.2⟩
                · have s1 : ¬ (mid : Int) < (e : Int) := by omega
                  clear c3 c4
                  go_wp2_with fail
                  go_end0
                  exact ⟨rfl, H3.out, H2.out.2⟩
end Go.Proofs.Ytllppkfeiifklaa
namespace Go.Proofs.Ytllppkfeiifklaa
open Go.RowKit Go.Lib
set_option linter.unusedVariables false
set_option maxRecDepth 20000
set_option linter.unusedSimpArgs false

theorem one_of {A : List Pr} (h : A.length = 1) : ∃ x, A = [x] := List.length_eq_one_iff.1 h
theorem sym_any : ∀ N, SymI N
  | 0 => fun w g cap P A B R n a m b h hA hB h1 h2 h3 => by omega
  | N + 1 => fun w g cap P A B R n a m b h hA hB h1 h2 h3 hc hl hn ha hm hb => by
    by_cases e1 : A.length = 1
    · obtain ⟨x, rfl⟩ := one_of e1
      exact sym_left P B R x h hB hc hl hn ha (by simpa using hm) hb
    · by_cases e2 : B.length = 1
      · obtain ⟨x, rfl⟩ := one_of e2
        exact sym_right P A R x h hA e1 hc hl hn ha hm (by simpa using hb)
      · by_cases e3 : (a + b) / 2 < m
        · exact sym_up (sym_any N) P A B R h hA hB (by omega) (by omega) h3 hc hl hn ha hm hb rfl e3
        · exact sym_dn (sym_any N) P A B R h hA hB (by omega) (by omega) h3 hc hl hn ha hm hb rfl e3

/-- Blocks of s up to a (each sorted), the rest in blocks of r. -/
structure Ph (w0 wr : World) (g cap : Nat) (l0 : List Pr) (s r a : Nat) : Prop where
  ex : ∃ S T, Hx wr g cap (S ++ T) ∧ S.length = a ∧ (∃ t, a = t * s) ∧ Bl s S ∧ (0 < r → Bl r T) ∧ Sim (S ++ T) l0
  tu : Turn (fun k => k = g) w0 wr
/-- All in blocks of s. -/
structure Pq (w0 wr : World) (g cap : Nat) (l0 : List Pr) (s : Nat) : Prop where
  ex : ∃ l, Hx wr g cap l ∧ Bl s l ∧ Sim l l0
  tu : Turn (fun k => k = g) w0 wr
section
variable {w0 wr : World} {g cap n a b m s : Nat} {l0 : List Pr}
theorem Bl.nil (s : Nat) : Bl s [] := fun t => by simp [Sd.nil]
theorem Ph.first (hx : Hx wr g cap l0) (t : Turn (fun k => k = g) w0 wr) : Ph w0 wr g cap l0 20 0 0 := ⟨⟨[], l0, hx, rfl, ⟨0, by simp⟩, Bl.nil _, fun h => absurd h (by decide), Sim.refl _⟩, t⟩
theorem Ph.iso (h : Ph w0 wr g cap l0 20 0 a) (hc : cap ≤ maxLen) (hl : n ≤ 100000) (hn : n = l0.length) (hb : b = a + 20) (hbn : b ≤ n) :
    Calls Try.prog 104 #[.slice (some ⟨g, 0, none⟩) n cap, .int .i64 (a : Int), .int .i64 (b : Int), .func (.func 59) #[] #[]] wr fun e w' => e = .returned (.tuple #[]) ∧ Ph w0 w' g cap l0 20 0 b := by
  obtain ⟨S, T, hx, hS, ⟨t, ht⟩, hB, _, hm⟩ := h.ex
  have hlen := hm.len
  rw [List.length_append] at hlen
  have e : S ++ T = S ++ T.take 20 ++ T.drop 20 := by rw [List.append_assoc, List.take_append_drop]
  have hT : (T.take 20).length = 20 := by rw [List.length_take]; omega
  rw [e] at hx
  refine (iso_any S (T.take 20) (T.drop 20) hx hc hl (n := n) (a := a) (b := b) (by rw [← e, List.length_append]; omega) hS.symm (by omega)).mono ?_
  rintro r w' ⟨rfl, ⟨M, hx', hs', hm'⟩, ht'⟩
  have hM := hm'.len
  refine ⟨rfl, ⟨S ++ M, T.drop 20, hx', by rw [List.length_append]; omega, ⟨t + 1, by rw [Nat.succ_mul]; omega⟩, hB.append (hS.trans ht) (Bl.of_sd _ hs'), fun h => absurd h (by decide), ?_⟩, h.tu.trans ht'⟩
  refine Sim.trans ?_ hm
  rw [e]
  exact ((Sim.refl S).append hm').append (Sim.refl _)
theorem Ph.isoEnd (h : Ph w0 wr g cap l0 20 0 a) (hc : cap ≤ maxLen) (hl : n ≤ 100000) (hn : n = l0.length) (hbn : n < a + 20) :
    Calls Try.prog 104 #[.slice (some ⟨g, 0, none⟩) n cap, .int .i64 (a : Int), .int .i64 (n : Int), .func (.func 59) #[] #[]] wr fun e w' => e = .returned (.tuple #[]) ∧ Pq w0 w' g cap l0 20 := by
  obtain ⟨S, T, hx, hS, ⟨t, ht⟩, hB, _, hm⟩ := h.ex
  have hlen := hm.len
  rw [List.length_append] at hlen
  refine (iso_any S T [] (by simpa using hx) hc hl (n := n) (a := a) (b := n) (by rw [List.append_nil, List.length_append]; omega) hS.symm (by omega)).mono ?_
  rintro r w' ⟨rfl, ⟨M, hx', hs', hm'⟩, ht'⟩
  exact ⟨rfl, ⟨S ++ M, by simpa using hx', hB.append (hS.trans ht) (Bl.of_sd _ hs'), ((Sim.refl S).append hm').trans hm⟩, h.tu.trans ht'⟩
theorem Pq.merge (h : Pq w0 wr g cap l0 s) (h0 : 0 < s) : Ph w0 wr g cap l0 (s * 2) s 0 := by
  obtain ⟨l, hx, hb, hm⟩ := h.ex
  exact ⟨⟨[], l, hx, rfl, ⟨0, by simp⟩, Bl.nil _, fun _ => hb, hm⟩, h.tu⟩
theorem Ph.sym (h : Ph w0 wr g cap l0 (s * 2) s a) (h0 : 0 < s) (hc : cap ≤ maxLen) (hl : n ≤ 100000) (hn : n = l0.length) (hm : m = a + s) (hb : b = m + s) (hbn : b ≤ n) :
    Calls Try.prog 105 #[.slice (some ⟨g, 0, none⟩) n cap, .int .i64 (a : Int), .int .i64 (m : Int), .int .i64 (b : Int), .func (.func 59) #[] #[]] wr fun e w' => e = .returned (.tuple #[]) ∧ Ph w0 w' g cap l0 (s * 2) s b := by
  obtain ⟨S, T, hx, hS, ⟨t, ht⟩, hB, hT, hmm⟩ := h.ex
  have hT := hT h0
  have hlen := hmm.len
  rw [List.length_append] at hlen
  have e0 : T = T.take s ++ (T.drop s).take s ++ (T.drop s).drop s := by rw [List.append_assoc, List.take_append_drop, List.take_append_drop]
  have e : S ++ T = S ++ T.take s ++ (T.drop s).take s ++ (T.drop s).drop s := by
    conv => lhs; rw [e0]
    simp only [List.append_assoc]
  have l1 : (T.take s).length = s := by rw [List.length_take]; omega
  have l2 : ((T.drop s).take s).length = s := by rw [List.length_take, List.length_drop]; omega
  rw [e] at hx
  refine (sym_any (s + s) wr g cap S (T.take s) ((T.drop s).take s) ((T.drop s).drop s) n a m b hx hT.head hT.tail.head (by omega) (by omega) (by omega) hc hl (by rw [← e, List.length_append]; omega) hS.symm (by omega) (by omega)).mono ?_
  rintro r w' ⟨rfl, ⟨M, hx', hs', hm'⟩, ht'⟩
  have hM := hm'.len
  rw [List.length_append] at hM
  refine ⟨rfl, ⟨S ++ M, (T.drop s).drop s, hx', by rw [List.length_append]; omega, ⟨t + 1, by rw [Nat.succ_mul]; omega⟩, hB.append (hS.trans ht) (Bl.of_sd _ hs'), fun _ => hT.tail.tail, ?_⟩, h.tu.trans ht'⟩
  refine Sim.trans ?_ hmm
  rw [e, List.append_assoc S (T.take s)]
  exact ((Sim.refl S).append hm').append (Sim.refl _)
theorem Ph.symEnd (h : Ph w0 wr g cap l0 (s * 2) s a) (h0 : 0 < s) (hc : cap ≤ maxLen) (hl : n ≤ 100000) (hn : n = l0.length) (hm : m = a + s) (hmn : m < n) (hbn : n < m + s) :
    Calls Try.prog 105 #[.slice (some ⟨g, 0, none⟩) n cap, .int .i64 (a : Int), .int .i64 (m : Int), .int .i64 (n : Int), .func (.func 59) #[] #[]] wr fun e w' => e = .returned (.tuple #[]) ∧ Pq w0 w' g cap l0 (s * 2) := by
  obtain ⟨S, T, hx, hS, ⟨t, ht⟩, hB, hT, hmm⟩ := h.ex
  have hT := hT h0
  have hlen := hmm.len
  rw [List.length_append] at hlen
  have e : S ++ T = S ++ T.take s ++ T.drop s ++ [] := by rw [List.append_nil, List.append_assoc, List.take_append_drop]
  have l1 : (T.take s).length = s := by rw [List.length_take]; omega
  have l2 : (T.drop s).length = n - m := by rw [List.length_drop]; omega
  rw [e] at hx
  refine (sym_any (s + s) wr g cap S (T.take s) (T.drop s) [] n a m n hx hT.head (hT.tail.all (by omega)) (by omega) (by omega) (by omega) hc hl (by rw [← e, List.length_append]; omega) hS.symm (by omega) (by omega)).mono ?_
  rintro r w' ⟨rfl, ⟨M, hx', hs', hm'⟩, ht'⟩
  refine ⟨rfl, ⟨S ++ M, by simpa using hx', hB.append (hS.trans ht) (Bl.of_sd _ hs'), ?_⟩, h.tu.trans ht'⟩
  refine Sim.trans ?_ hmm
  have e2 : S ++ T = S ++ (T.take s ++ T.drop s) := by rw [List.take_append_drop]
  rw [e2]
  exact (Sim.refl S).append hm'
theorem Ph.symNo (h : Ph w0 wr g cap l0 (s * 2) s a) (h0 : 0 < s) (hn : n = l0.length) (hmn : ¬ a + s < n) : Pq w0 wr g cap l0 (s * 2) := by
  obtain ⟨S, T, hx, hS, ⟨t, ht⟩, hB, hT, hmm⟩ := h.ex
  have hT := hT h0
  have hlen := hmm.len
  rw [List.length_append] at hlen
  exact ⟨⟨S ++ T, hx, hB.append (hS.trans ht) (Bl.of_sd _ (hT.all (by omega))), hmm⟩, h.tu⟩
theorem Pq.done (h : Pq w0 wr g cap l0 s) (hs : l0.length ≤ s) : Srd wr g cap [] l0 [] := by
  obtain ⟨l, hx, hb, hm⟩ := h.ex
  exact ⟨l, by simpa using hx, hb.all (by rw [hm.len]; exact hs), hm⟩
end

set_option maxHeartbeats 4000000 in
theorem stab47_any {w : World} {g cap : Nat} (l : List Pr) (h : Hx w g cap l) (hc : cap ≤ maxLen) {n : Nat} (hl : n ≤ 100000) (hn : n = l.length) :
    Calls Try.prog 90 #[.slice (some ⟨g, 0, none⟩) n cap, .int .i64 (n : Int), .func (.func 59) #[] #[]] w fun e w' => e = .returned (.tuple #[]) ∧ Srd w' g cap [] l [] ∧ Turn (fun k => k = g) w w' := by
  have C1 := Lib.hid fun (wr : World) (a b : Nat) (hp : Ph w wr g cap l 20 0 a) (hb : b = a + 20) (hbn : b ≤ n) => hp.iso hc hl hn hb hbn
  have C2 := Lib.hid fun (wr : World) (a : Nat) (hp : Ph w wr g cap l 20 0 a) (hbn : n < a + 20) => hp.isoEnd hc hl hn hbn
  have C3 := Lib.hid fun (wr : World) (s a m b : Nat) (hp : Ph w wr g cap l (s * 2) s a) (h0 : 0 < s) (hm : m = a + s) (hb : b = m + s) (hbn : b ≤ n) => hp.sym h0 hc hl hn hm hb hbn
  have C4 := Lib.hid fun (wr : World) (s a m : Nat) (hp : Ph w wr g cap l (s * 2) s a) (h0 : 0 < s) (hm : m = a + s) (hmn : m < n) (hbn : n < m + s) => hp.symEnd h0 hc hl hn hm hmn hbn
  have H0 : Hid (Ph w w g cap l 20 0 0) := Lib.hid (Ph.first h (Turn.refl _ _))
  have HL := Lib.hid hn
  unfold maxLen at hc
  clear h hn
  go_enter Try.func90, Try.ntmps90
  go_wp2_with fail
  go_loopw [7, 8] (fun x y wr => ∃ a b : Nat, a ≤ n ∧ b ≤ a + 20 ∧ a + 20 ≤ b ∧ x = .int .i64 (a : Int) ∧ y = .int .i64 (b : Int) ∧ Hid (Ph w wr g cap l 20 0 a)) (fun x _ _ => n - (RowKit.intOf x).toNat)
  case atStart => exact ⟨0, 20, Nat.zero_le _, Nat.le_refl _, Nat.le_refl _, rfl, rfl, H0⟩
  case round =>
    obtain ⟨a, b, h1, h2, h2b, rfl, rfl, HP⟩ := hrel
    clear H0
    by_cases hbn : b ≤ n
    · have C := Lib.hid (C1.out wr a b HP.out (by omega) hbn)
      clear C1 C2 C3 C4
      go_wp2_with (go_at_call 104; (with_reducible refine C.out.mono ?_); rintro e w2 ⟨rfl, y1⟩; have H2 := Lib.hid y1; clear y1)
      exact ⟨⟨b, b + 20, hbn, Nat.le_refl _, Nat.le_refl _, rfl, by go_num, H2⟩, by simp [RowKit.intOf]; omega⟩
    · have C := Lib.hid (C2.out wr a HP.out (by omega))
      clear C1 C2
      go_upto_region 7 with (go_at_call 104; (with_reducible refine C.out.mono ?_); rintro e w2 ⟨rfl, y1⟩; have H2 := Lib.hid y1; clear y1)
      clear C HP
      go_wp2_with fail
      go_loopw [6] (fun x wr => ∃ s : Nat, 20 ≤ s ∧ s ≤ 200000 ∧ x = .int .i64 (s : Int) ∧ Hid (Pq w wr g cap l s)) (fun x _ => n - (RowKit.intOf x).toNat)
      case atStart => exact ⟨20, Nat.le_refl _, by decide, rfl, H2⟩
      case round =>
        obtain ⟨s, h3, h3b, rfl, HS⟩ := hrel
        clear H2
        by_cases hsn : s < n
        · obtain ⟨wx, hwx⟩ : ∃ x, x = wr := ⟨_, rfl⟩
          subst hwx
          have HM := Lib.hid (HS.out.merge (by omega))
          clear HS
          go_wp2_with fail
          go_loopw [7, 8] (fun x y wr => ∃ a b : Nat, a ≤ n ∧ b ≤ a + s * 2 ∧ a + s * 2 ≤ b ∧ x = .int .i64 (a : Int) ∧ y = .int .i64 (b : Int) ∧ Hid (Ph w wr g cap l (s * 2) s a)) (fun x _ _ => n - (RowKit.intOf x).toNat)
          case atStart => exact ⟨0, s * 2, Nat.zero_le _, by omega, by omega, rfl, by go_num, HM⟩
          case round =>
            obtain ⟨a2, b2, h4, h5, h5b, rfl, rfl, HP⟩ := hrel
            clear HM
            by_cases hbn2 : b2 ≤ n
            · obtain ⟨m2, hm2⟩ : ∃ m2, a2 + s = m2 := ⟨_, rfl⟩
              have C := Lib.hid (C3.out wr s a2 m2 b2 HP.out (by omega) hm2.symm (by omega) hbn2)
              have q1 : (a2 : Int) + (s : Int) = (m2 : Int) := by omega
              clear C3 C4 hm2
              go_wp2_with (go_at_call 105; (with_reducible refine C.out.mono ?_); rintro e w2 ⟨rfl, y1⟩; have H2 := Lib.hid y1; clear y1)
              exact ⟨⟨b2, b2 + s * 2, hbn2, Nat.le_refl _, Nat.le_refl _, rfl, by go_num, H2⟩, by simp [RowKit.intOf]; omega⟩
            · obtain ⟨m2, hm2⟩ : ∃ m2, a2 + s = m2 := ⟨_, rfl⟩
              have q1 : (a2 : Int) + (s : Int) = (m2 : Int) := by omega
              by_cases hmn : m2 < n
              · have C := Lib.hid (C4.out wr s a2 m2 HP.out (by omega) hm2.symm hmn (by omega))
                clear C3 C4 hm2
                go_wp2_with (go_at_call 105; (with_reducible refine C.out.mono ?_); rintro e w2 ⟨rfl, y1⟩; have H2 := Lib.hid y1; clear y1)
                exact ⟨⟨s * 2, by omega, by omega, by go_num, H2⟩, by simp [RowKit.intOf]; omega⟩
              · have H2 := Lib.hid (HP.out.symNo (by omega) HL.out (by omega))
                clear C3 C4 hm2
                go_wp2_with fail
                exact ⟨⟨s * 2, by omega, by omega, by go_num, H2⟩, by simp [RowKit.intOf]; omega⟩
        · have HF := Lib.hid (HS.out.done (by have := HL.out; omega))
          go_wp2_with fail
          go_end0
          exact ⟨rfl, HF.out, HS.out.tu⟩
theorem stab27_any {w : World} {g cap : Nat} (l : List Pr) (h : Hx w g cap l) (hc : cap ≤ maxLen) {n : Nat} (hl : n ≤ 100000) (hn : n = l.length) :
    Calls Try.prog 58 #[.slice (some ⟨g, 0, none⟩) n cap, .func (.func 59) #[] #[]] w fun e w' => e = .returned (.tuple #[]) ∧ Srd w' g cap [] l [] ∧ Turn (fun k => k = g) w w' := by
  have C := Lib.hid (stab47_any l h hc hl hn)
  clear h hn
  go_enter Try.func58, Try.ntmps58
  go_wp2_with (go_at_call 90; refine C.out.mono ?_; rintro e w' ⟨rfl, h1, h2⟩; have H := Lib.hid (And.intro h1 h2); clear h1 h2)
  go_end0
  exact ⟨rfl, H.out⟩
end Go.Proofs.Ytllppkfeiifklaa
