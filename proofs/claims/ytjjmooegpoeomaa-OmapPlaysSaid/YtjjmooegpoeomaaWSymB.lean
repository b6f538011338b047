/-
  symMerge: one pair behind a sorted part.
-/
import Derived.Test.YtjjmooegpoeomaaWSymA
namespace Go.Proofs.Ytjjmooegpoeomaa
open Go.RowKit Go.Lib
set_option linter.unusedVariables false
set_option linter.unusedSimpArgs false

set_option maxRecDepth 100000 in
set_option maxHeartbeats 4000000 in
theorem sym_right {w : World} {g cap : Nat} (P A R : List Pr) (x : Pr) (h : Hx w g cap (P ++ A ++ [x] ++ R)) (hA : Sd A) (h1 : A.length ≠ 1) (hc : cap ≤ maxLen) {n a m b : Nat} (hl : n ≤ 100000) (hn : n = (P ++ A ++ [x] ++ R).length) (ha : a = P.length) (hm : m = a + A.length) (hb : b = m + 1) :
    Calls Try.prog 55 #[.slice (some ⟨g, 0, none⟩) n cap, .int .i64 (a : Int), .int .i64 (m : Int), .int .i64 (b : Int), .func (.func 28) #[] #[]] w fun e w' => e = .returned (.tuple #[]) ∧ Srd w' g cap P (A ++ [x]) R ∧ Turn (fun k => k = g) w w' := by
  have hfit := h.fits
  rw [← hn] at hfit
  simp only [List.length_append, List.length_cons, List.length_nil] at hn
  obtain ⟨la, hla⟩ : ∃ la, A.length = la := ⟨_, rfl⟩
  have hmn : m < n := by omega
  have ham : a ≤ m := by omega
  have q1 : (m : Int) - (a : Int) = (la : Int) := by omega
  have q1a : ((la : Int) == 1) = false := by simpa using (by omega : ¬ (la : Int) = 1)
  have q1b : (b : Int) - (m : Int) = 1 := by omega
  have qa : (0 : Int) ≤ (m : Int) := by omega
  have qb : (m : Int) < (n : Int) := by omega
  have HQ := Lib.hid (And.intro ha (And.intro hm (And.intro hb hla)))
  have HX := Lib.hid (And.intro h hA)
  have C28 := Lib.hid cmp28_any
  have H0 : Hid (Sr (fun p => ¬ kl x.k p.k) A (a - a) (m - a) ∧ Turn No w w) := Lib.hid ⟨by rw [Nat.sub_self, show m - a = A.length by omega]; exact Sr.start _ _, Turn.refl _ _⟩
  unfold maxLen at hc
  have hla2 : la ≤ n := by omega
  clear h hA hn ha hm hb hla h1
  go_enter Try.func55, Try.ntmps55
  go_wp2_with fail
  go_loopw [14, 15] (fun i j wr => ∃ ii jj : Nat, a ≤ ii ∧ ii ≤ jj ∧ jj ≤ m ∧ i = .int .i64 (ii : Int) ∧ j = .int .i64 (jj : Int) ∧ Hid (Sr (fun p => ¬ kl x.k p.k) A (ii - a) (jj - a) ∧ Turn No w wr)) (fun i j _ => (RowKit.intOf j).toNat - (RowKit.intOf i).toNat)
  case atStart => exact ⟨a, m, Nat.le_refl _, ham, Nat.le_refl _, rfl, rfl, H0⟩
  case round =>
    obtain ⟨ii, jj, h1, h2, h3, rfl, rfl, HP⟩ := hrel
    clear H0
    by_cases hlt : ii < jj
    · obtain ⟨hh, hhe⟩ : ∃ hh, (ii + jj) / 2 = hh := ⟨_, rfl⟩
      have b1 : ii ≤ hh := by omega
      have b2 : hh < jj := by omega
      have q2 : ((ii : Int) + (jj : Int)) / 2 = (hh : Int) := by omega
      have q3 : (0 : Int) ≤ (hh : Int) := by omega
      have q4 : (hh : Int) < (n : Int) := by omega
      obtain ⟨p, hp⟩ : ∃ p, A[hh - a]? = some p := ⟨A[hh - a]'(by have := HQ.out; omega), List.getElem?_eq_getElem (by have := HQ.out; omega)⟩
      have hpl := at_a (P := P) (B := [x]) (R := R) hp
      rw [show P.length + (hh - a) = hh by have := HQ.out; omega] at hpl
      have hxl := at_b (P := P) (A := A) (B := [x]) (R := R) (i := 0) rfl
      rw [show P.length + A.length + 0 = m by have := HQ.out; omega] at hxl
      have HU := Lib.hid (And.intro (fun hf => HP.out.1.up hp hf) (And.intro (fun hf => HP.out.1.down hp hf) HP.out.2))
      obtain ⟨pk, pv⟩ := p
      obtain ⟨xk, xv⟩ := x
      have HC : Hid (∀ w2, Turn No wr w2 → w2.cell? ⟨g, m * 2, none⟩ = some (.string xk) ∧ w2.cell? ⟨g, m * 2 + 1, none⟩ = some (.string xv) ∧ w2.cell? ⟨g, hh * 2, none⟩ = some (.string pk) ∧ w2.cell? ⟨g, hh * 2 + 1, none⟩ = some (.string pv)) := Lib.hid fun w2 t => ⟨(((HX.out.1.no HP.out.2).no t).cells hxl).1, (((HX.out.1.no HP.out.2).no t).cells hxl).2, (((HX.out.1.no HP.out.2).no t).cells hpl).1, (((HX.out.1.no HP.out.2).no t).cells hpl).2⟩
      have x0 := (HC.out wr (Turn.refl _ _)).1
      have x1 := (HC.out wr (Turn.refl _ _)).2.1
      have x2 := (HC.out wr (Turn.refl _ _)).2.2.1
      have x3 := (HC.out wr (Turn.refl _ _)).2.2.2
      have HE := Lib.hid hhe
      clear hhe HP hp hpl hxl
      by_cases hk : kcmp xk pk < 0
      · have hkd : decide (kcmp xk pk < 0) = true := decide_eq_true hk
        have HN := Lib.hid (HU.out.2.1 (fun h => h hk))
        clear hk
        go_wp2_with fail
        have hS0 : wr.drew.cell? ⟨g, m * 2, none⟩ = some (.string xk) ∧ wr.drew.cell? ⟨g, m * 2 + 1, none⟩ = some (.string xv) ∧ wr.drew.cell? ⟨g, hh * 2, none⟩ = some (.string pk) ∧ wr.drew.cell? ⟨g, hh * 2 + 1, none⟩ = some (.string pv) := ⟨by simpa using x0, by simpa using x1, by simpa using x2, by simpa using x3⟩
        have hS1 : Hid (∀ w2, Turn No wr w2 → w2.cell? ⟨g, m * 2, none⟩ = some (.string xk) ∧ w2.cell? ⟨g, m * 2 + 1, none⟩ = some (.string xv) ∧ w2.cell? ⟨g, hh * 2, none⟩ = some (.string pk) ∧ w2.cell? ⟨g, hh * 2 + 1, none⟩ = some (.string pv)) := Lib.hid fun w2 t => HC.out w2 t
        go_region_held3 (fun W => W.cell? ⟨g, m * 2, none⟩ = some (.string xk) ∧ W.cell? ⟨g, m * 2 + 1, none⟩ = some (.string xv) ∧ W.cell? ⟨g, hh * 2, none⟩ = some (.string pk) ∧ W.cell? ⟨g, hh * 2 + 1, none⟩ = some (.string pv)) (first | (with_reducible exact hS0) | (with_reducible exact hS1.out _ HT2.out)) (first | (go_at_call 28; (with_reducible refine (C28.out xk xv pk pv _).mono ?_); rintro e w2 ⟨rfl, ht⟩; have HT2 : Hid (Turn No wr w2) := Lib.hid (((Turn.refl No wr).drewN _).trans ht); clear ht))
        clear hS0 hS1 x0 x1 x2 x3 HC
        go_wp2_with fail
        exact ⟨⟨ii, hh, by omega, by omega, by omega, rfl, by go_num, Lib.hid ⟨HN.out, HU.out.2.2.trans HT2.out⟩⟩, by simp [RowKit.intOf]; omega⟩
      · have hkd : decide (kcmp xk pk < 0) = false := decide_eq_false hk
        have HN := Lib.hid (HU.out.1 hk)
        clear hk
        go_wp2_with fail
        have hS0 : wr.drew.cell? ⟨g, m * 2, none⟩ = some (.string xk) ∧ wr.drew.cell? ⟨g, m * 2 + 1, none⟩ = some (.string xv) ∧ wr.drew.cell? ⟨g, hh * 2, none⟩ = some (.string pk) ∧ wr.drew.cell? ⟨g, hh * 2 + 1, none⟩ = some (.string pv) := ⟨by simpa using x0, by simpa using x1, by simpa using x2, by simpa using x3⟩
        have hS1 : Hid (∀ w2, Turn No wr w2 → w2.cell? ⟨g, m * 2, none⟩ = some (.string xk) ∧ w2.cell? ⟨g, m * 2 + 1, none⟩ = some (.string xv) ∧ w2.cell? ⟨g, hh * 2, none⟩ = some (.string pk) ∧ w2.cell? ⟨g, hh * 2 + 1, none⟩ = some (.string pv)) := Lib.hid fun w2 t => HC.out w2 t
        go_region_held3 (fun W => W.cell? ⟨g, m * 2, none⟩ = some (.string xk) ∧ W.cell? ⟨g, m * 2 + 1, none⟩ = some (.string xv) ∧ W.cell? ⟨g, hh * 2, none⟩ = some (.string pk) ∧ W.cell? ⟨g, hh * 2 + 1, none⟩ = some (.string pv)) (first | (with_reducible exact hS0) | (with_reducible exact hS1.out _ HT2.out)) (first | (go_at_call 28; (with_reducible refine (C28.out xk xv pk pv _).mono ?_); rintro e w2 ⟨rfl, ht⟩; have HT2 : Hid (Turn No wr w2) := Lib.hid (((Turn.refl No wr).drewN _).trans ht); clear ht))
        clear hS0 hS1 x0 x1 x2 x3 HC
        go_wp2_with fail
        exact ⟨⟨hh + 1, jj, by omega, by omega, h3, by go_num, rfl, Lib.hid ⟨by rw [show hh + 1 - a = hh - a + 1 by omega]; exact HN.out, HU.out.2.2.trans HT2.out⟩⟩, by simp [RowKit.intOf]; omega⟩
    · obtain rfl : ii = jj := by omega
      obtain ⟨c, hce⟩ : ∃ c, ii - a = c := ⟨_, rfl⟩
      have hS := HP.out.1
      rw [hce] at hS
      have hins := ins_left HX.out.2 hS.le hS.lo (by rcases hS.hi with e | ⟨p, hp, hk⟩; exact .inl e; exact .inr ⟨p, hp, Classical.not_not.1 hk⟩)
      have HI := Lib.hid hins
      have hcb : c ≤ la := by have := hS.le; have := HQ.out; omega
      have H2 : Hid (Mv w wr g cap P x A R la) := Lib.hid ⟨by
        have h1 := HX.out.1.no HP.out.2
        have e := HQ.out.2.2.2
        rw [← e, List.take_length, List.drop_length]
        simpa using h1, HP.out.2.mono fun _ _ h => h.elim⟩
      have q2 : (ii : Int) = (a : Int) + (c : Int) := by have := HQ.out; omega
      have q2b : (m : Int) = (a : Int) + (la : Int) := by have := HQ.out; omega
      have b5 : a + la < n := by have := HQ.out; omega
      have HV := Lib.hid (And.intro hce (And.intro q2 q2b))
      clear HP hins hS hce q2 q2b
      obtain ⟨wx, hwx⟩ : ∃ x, x = wr := ⟨_, rfl⟩
      subst hwx
      go_wp2_with fail
      go_loopw [17] (fun k wr => ∃ t : Nat, c ≤ t ∧ t ≤ la ∧ k = .int .i64 ((a : Int) + (t : Int)) ∧ Hid (Mv w wr g cap P x A R t)) (fun k _ => (RowKit.intOf k).toNat)
      case atStart => exact ⟨la, hcb, Nat.le_refl _, by rw [← HV.out.2.2], H2⟩
      case round =>
        obtain ⟨t, ht, htl, rfl, HM⟩ := hrel
        clear H2
        by_cases htc : c < t
        · obtain ⟨t0, ht0⟩ : ∃ t0, t = t0 + 1 := ⟨t - 1, by omega⟩
          obtain ⟨y, hy⟩ : ∃ y, A[t0]? = some y := ⟨A[t0]'(by have := HQ.out; omega), List.getElem?_eq_getElem (by have := HQ.out; omega)⟩
          obtain ⟨k, hk⟩ : ∃ k, a + t0 = k := ⟨_, rfl⟩
          obtain ⟨k1, hk1⟩ : ∃ k1, k + 1 = k1 := ⟨_, rfl⟩
          have hM := HM.out
          rw [ht0] at hM
          have hS := hM.left hy (k := k) (k1 := k1) (by have := HQ.out; omega) hk1.symm
          have HS := Lib.hid hS
          obtain ⟨xk, xv⟩ := x
          obtain ⟨yk, yv⟩ := y
          have x0 := HS.out.xi.1
          have x1 := HS.out.xi.2
          have x2 := HS.out.yj.1
          have x3 := HS.out.yj.2
          simp only at x0 x1 x2 x3
          have e0 := HS.out.th (k1 * 2)
          have e1 := HS.out.th (k1 * 2 + 1)
          have e2 := HS.out.th (k * 2)
          have e3 := HS.out.th (k * 2 + 1)
          have d0 : ¬ k * 2 = k1 * 2 := by omega
          have d1 : ¬ k * 2 + 1 = k1 * 2 := by omega
          have d2 : ¬ k * 2 = k1 * 2 + 1 := by omega
          have d3 : ¬ k1 * 2 = k * 2 := by omega
          have d4 : ¬ k1 * 2 + 1 = k * 2 := by omega
          have d5 : ¬ k1 * 2 = k * 2 + 1 := by omega
          have q5 : (a : Int) + (t : Int) = (k1 : Int) := by omega
          have q6 : (k1 : Int) - 1 = (k : Int) := by omega
          have q7 : (ii : Int) < (k1 : Int) := by have := HV.out; omega
          have b6 : k1 < n := by omega
          have b7 : k ≤ k1 := by omega
          have HK := Lib.hid (And.intro hk (And.intro hk1 ht0))
          have HT := Lib.hid HM.out.tu
          clear hy hS hk hk1 HM hM ht0
          rw [q5]
          go_wp2_with fail
          go_region
          all_goals go_wp2_with fail
          all_goals exact ⟨⟨t0, by have := HK.out; omega, by have := HK.out; omega, by have := HK.out; go_num, Lib.hid ⟨(by first | exact HS.out.one | exact HS.out.two), HT.out.trans (HS.out.tu _ _ _ _ _ _ _ _)⟩⟩, by have := HK.out; simp [RowKit.intOf]; omega⟩
        · obtain rfl : t = c := by omega
          have HF : Hid (Srd wr g cap P (A ++ [x]) R) := Lib.hid ⟨_, HM.out.ex, HI.out.1, HI.out.2⟩
          have q7 : ¬ (ii : Int) < (a : Int) + (t : Int) := by have := HV.out; omega
          go_wp2_with fail
          (try simp only [Exit.inBlock, Exit.then])
          refine bodyPost_ret (results_none rfl _ _ _) rfl ?_
          exact ⟨rfl, HF.out, HM.out.tu⟩
end Go.Proofs.Ytjjmooegpoeomaa
