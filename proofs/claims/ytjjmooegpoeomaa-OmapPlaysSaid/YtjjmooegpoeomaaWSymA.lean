/-
  symMerge: one pair ahead of a sorted part.
-/
import Derived.Test.YtjjmooegpoeomaaWIso
namespace Go.Proofs.Ytjjmooegpoeomaa
open Go.RowKit Go.Lib
set_option linter.unusedVariables false
set_option linter.unusedSimpArgs false

/-- A search in a sorted part: what is below i stands ahead, what is from j on does not. -/
structure Sr (f : Pr → Prop) (B : List Pr) (ci cj : Nat) : Prop where
  le : cj ≤ B.length
  lo : ci = 0 ∨ ∃ p, B[ci - 1]? = some p ∧ f p
  hi : cj = B.length ∨ ∃ p, B[cj]? = some p ∧ ¬ f p
theorem Sr.start (f : Pr → Prop) (B : List Pr) : Sr f B 0 B.length := ⟨Nat.le_refl _, .inl rfl, .inl rfl⟩
theorem Sr.up {f : Pr → Prop} {B : List Pr} {ci cj c : Nat} (h : Sr f B ci cj) {p : Pr} (hp : B[c]? = some p) (hf : f p) : Sr f B (c + 1) cj := ⟨h.le, .inr ⟨p, by simpa using hp, hf⟩, h.hi⟩
theorem Sr.down {f : Pr → Prop} {B : List Pr} {ci cj c : Nat} (h : Sr f B ci cj) {p : Pr} (hp : B[c]? = some p) (hf : ¬ f p) : Sr f B ci c := ⟨Nat.le_of_lt (List.getElem?_eq_some_iff.1 hp).1, h.lo, .inr ⟨p, hp, hf⟩⟩
/-- A pair on its way through a part. -/
structure Mv (w0 wr : World) (g cap : Nat) (P : List Pr) (x : Pr) (B R : List Pr) (t : Nat) : Prop where
  ex : Hx wr g cap (P ++ (B.take t ++ x :: B.drop t) ++ R)
  tu : Turn (fun k => k = g) w0 wr
section
variable {w0 wr : World} {g cap : Nat} {P B R : List Pr} {x : Pr} {t : Nat}
theorem mv_form {y : Pr} (hy : B[t]? = some y) : P ++ (B.take t ++ x :: B.drop t) ++ R = (P ++ B.take t) ++ x :: ([] ++ y :: (B.drop (t + 1) ++ R)) ∧
    P ++ (B.take (t + 1) ++ x :: B.drop (t + 1)) ++ R = (P ++ B.take t) ++ y :: ([] ++ x :: (B.drop (t + 1) ++ R)) := by
  constructor
  · rw [drop_cons hy]; simp
  · rw [List.take_add_one, hy]; simp
theorem Mv.right (h : Mv w0 wr g cap P x B R t) {y : Pr} (hy : B[t]? = some y) {k k1 : Nat} (hk : k = P.length + t) (hk1 : k1 = k + 1) :
    Sw wr g cap k k1 x y (P ++ (B.take (t + 1) ++ x :: B.drop (t + 1)) ++ R) := by
  have hb := (List.getElem?_eq_some_iff.1 hy).1
  have h1 := h.ex
  rw [(mv_form hy).1] at h1
  rw [(mv_form hy).2]
  exact h1.sw (by rw [List.length_append, List.length_take]; omega) (by rw [List.length_append, List.length_take]; simp; omega)
theorem Mv.left (h : Mv w0 wr g cap P x B R (t + 1)) {y : Pr} (hy : B[t]? = some y) {k k1 : Nat} (hk : k = P.length + t) (hk1 : k1 = k + 1) :
    Sw wr g cap k k1 y x (P ++ (B.take t ++ x :: B.drop t) ++ R) := by
  have hb := (List.getElem?_eq_some_iff.1 hy).1
  have h1 := h.ex
  rw [(mv_form hy).2] at h1
  rw [(mv_form hy).1]
  exact h1.sw (by rw [List.length_append, List.length_take]; omega) (by rw [List.length_append, List.length_take]; simp; omega)
end
theorem at_mid (P A B R : List Pr) {i : Nat} (h : P.length ≤ i) : (P ++ A ++ B ++ R)[i]? = (A ++ B ++ R)[i - P.length]? := by
  rw [List.append_assoc, List.append_assoc, List.getElem?_append_right h, List.append_assoc]
theorem at_a {P A B R : List Pr} {i : Nat} {p : Pr} (hp : A[i]? = some p) : (P ++ A ++ B ++ R)[P.length + i]? = some p := by
  have := (List.getElem?_eq_some_iff.1 hp).1
  rw [at_mid _ _ _ _ (by omega), Nat.add_sub_cancel_left, List.append_assoc, List.getElem?_append_left this, hp]
theorem at_b {P A B R : List Pr} {i : Nat} {p : Pr} (hp : B[i]? = some p) : (P ++ A ++ B ++ R)[P.length + A.length + i]? = some p := by
  have := (List.getElem?_eq_some_iff.1 hp).1
  rw [at_mid _ _ _ _ (by omega), show P.length + A.length + i - P.length = A.length + i by omega, List.append_assoc, List.getElem?_append_right (by omega), Nat.add_sub_cancel_left, List.getElem?_append_left this, hp]

set_option maxRecDepth 100000 in
set_option maxHeartbeats 4000000 in
theorem sym_left {w : World} {g cap : Nat} (P B R : List Pr) (x : Pr) (h : Hx w g cap (P ++ [x] ++ B ++ R)) (hB : Sd B) (hc : cap ≤ maxLen) {n a m b : Nat} (hl : n ≤ 100000) (hn : n = (P ++ [x] ++ B ++ R).length) (ha : a = P.length) (hm : m = a + 1) (hb : b = m + B.length) :
    Calls Try.prog 55 #[.slice (some ⟨g, 0, none⟩) n cap, .int .i64 (a : Int), .int .i64 (m : Int), .int .i64 (b : Int), .func (.func 28) #[] #[]] w fun e w' => e = .returned (.tuple #[]) ∧ Srd w' g cap P ([x] ++ B) R ∧ Turn (fun k => k = g) w w' := by
  have hfit := h.fits
  rw [← hn] at hfit
  simp only [List.length_append, List.length_cons, List.length_nil] at hn
  have hbn : b ≤ n := by omega
  have han : a < n := by omega
  have hmb : m ≤ b := by omega
  have q1 : (m : Int) - (a : Int) = 1 := by omega
  have qa : (0 : Int) ≤ (a : Int) := by omega
  have qb : (a : Int) < (n : Int) := by omega
  have HQ := Lib.hid (And.intro ha (And.intro hm hb))
  have HX := Lib.hid (And.intro h hB)
  have C28 := Lib.hid cmp28_any
  have H0 : Hid (Sr (fun p => kl p.k x.k) B (m - m) (b - m) ∧ Turn No w w) := Lib.hid ⟨by rw [Nat.sub_self, show b - m = B.length by omega]; exact Sr.start _ _, Turn.refl _ _⟩
  unfold maxLen at hc
  clear h hB hn ha hm hb
  go_enter Try.func55, Try.ntmps55
  go_wp2_with fail
  go_loopw [10, 11] (fun i j wr => ∃ ii jj : Nat, m ≤ ii ∧ ii ≤ jj ∧ jj ≤ b ∧ i = .int .i64 (ii : Int) ∧ j = .int .i64 (jj : Int) ∧ Hid (Sr (fun p => kl p.k x.k) B (ii - m) (jj - m) ∧ Turn No w wr)) (fun i j _ => (RowKit.intOf j).toNat - (RowKit.intOf i).toNat)
  case atStart => exact ⟨m, b, Nat.le_refl _, hmb, Nat.le_refl _, rfl, rfl, H0⟩
  case round =>
    obtain ⟨ii, jj, h1, h2, h3, rfl, rfl, HP⟩ := hrel
    clear H0
    by_cases hlt : ii < jj
    · obtain ⟨hh, hhe⟩ : ∃ hh, (ii + jj) / 2 = hh := ⟨_, rfl⟩
      have b1 : ii ≤ hh := by omega
      have b2 : hh < jj := by omega
      have q2 : ((ii : Int) + (jj : Int)) / 2 = (hh : Int) := by omega
      have q3 : (0 : Int) ≤ (hh : Int) := by omega
      have q4 : (hh : Int) < (n : Int) := by omega
      obtain ⟨p, hp⟩ : ∃ p, B[hh - m]? = some p := ⟨B[hh - m]'(by have := HQ.out; omega), List.getElem?_eq_getElem (by have := HQ.out; omega)⟩
      have hpl := at_b (P := P) (A := [x]) (R := R) hp
      rw [show P.length + [x].length + (hh - m) = hh by have := HQ.out; simp; omega] at hpl
      have hxl := at_a (P := P) (A := [x]) (B := B) (R := R) (i := 0) rfl
      rw [show P.length + 0 = a by have := HQ.out; omega] at hxl
      have HU := Lib.hid (And.intro (fun hf => HP.out.1.up hp hf) (And.intro (fun hf => HP.out.1.down hp hf) HP.out.2))
      obtain ⟨pk, pv⟩ := p
      obtain ⟨xk, xv⟩ := x
      have HC : Hid (∀ w2, Turn No wr w2 → w2.cell? ⟨g, hh * 2, none⟩ = some (.string pk) ∧ w2.cell? ⟨g, hh * 2 + 1, none⟩ = some (.string pv) ∧ w2.cell? ⟨g, a * 2, none⟩ = some (.string xk) ∧ w2.cell? ⟨g, a * 2 + 1, none⟩ = some (.string xv)) := Lib.hid fun w2 t => ⟨(((HX.out.1.no HP.out.2).no t).cells hpl).1, (((HX.out.1.no HP.out.2).no t).cells hpl).2, (((HX.out.1.no HP.out.2).no t).cells hxl).1, (((HX.out.1.no HP.out.2).no t).cells hxl).2⟩
      have x0 := (HC.out wr (Turn.refl _ _)).1
      have x1 := (HC.out wr (Turn.refl _ _)).2.1
      have x2 := (HC.out wr (Turn.refl _ _)).2.2.1
      have x3 := (HC.out wr (Turn.refl _ _)).2.2.2
      have HE := Lib.hid hhe
      clear hhe HP hp hpl hxl
      by_cases hk : kcmp pk xk < 0
      · have hkd : decide (kcmp pk xk < 0) = true := decide_eq_true hk
        have HN := Lib.hid (HU.out.1 hk)
        clear hk
        go_wp2_with fail
        have hS0 : wr.drew.cell? ⟨g, hh * 2, none⟩ = some (.string pk) ∧ wr.drew.cell? ⟨g, hh * 2 + 1, none⟩ = some (.string pv) ∧ wr.drew.cell? ⟨g, a * 2, none⟩ = some (.string xk) ∧ wr.drew.cell? ⟨g, a * 2 + 1, none⟩ = some (.string xv) := ⟨by simpa using x0, by simpa using x1, by simpa using x2, by simpa using x3⟩
        have hS1 : Hid (∀ w2, Turn No wr w2 → w2.cell? ⟨g, hh * 2, none⟩ = some (.string pk) ∧ w2.cell? ⟨g, hh * 2 + 1, none⟩ = some (.string pv) ∧ w2.cell? ⟨g, a * 2, none⟩ = some (.string xk) ∧ w2.cell? ⟨g, a * 2 + 1, none⟩ = some (.string xv)) := Lib.hid fun w2 t => HC.out w2 t
        go_region_held3 (fun W => W.cell? ⟨g, hh * 2, none⟩ = some (.string pk) ∧ W.cell? ⟨g, hh * 2 + 1, none⟩ = some (.string pv) ∧ W.cell? ⟨g, a * 2, none⟩ = some (.string xk) ∧ W.cell? ⟨g, a * 2 + 1, none⟩ = some (.string xv)) (first | (with_reducible exact hS0) | (with_reducible exact hS1.out _ HT2.out)) (first | (go_at_call 28; (with_reducible refine (C28.out pk pv xk xv _).mono ?_); rintro e w2 ⟨rfl, ht⟩; have HT2 : Hid (Turn No wr w2) := Lib.hid (((Turn.refl No wr).drewN _).trans ht); clear ht))
        clear hS0 hS1 x0 x1 x2 x3 HC
        go_wp2_with fail
        exact ⟨⟨hh + 1, jj, by omega, by omega, h3, by go_num, rfl, Lib.hid ⟨by rw [show hh + 1 - m = hh - m + 1 by omega]; exact HN.out, HU.out.2.2.trans HT2.out⟩⟩, by simp [RowKit.intOf]; omega⟩
      · have hkd : decide (kcmp pk xk < 0) = false := decide_eq_false hk
        have HN := Lib.hid (HU.out.2.1 hk)
        clear hk
        go_wp2_with fail
        have hS0 : wr.drew.cell? ⟨g, hh * 2, none⟩ = some (.string pk) ∧ wr.drew.cell? ⟨g, hh * 2 + 1, none⟩ = some (.string pv) ∧ wr.drew.cell? ⟨g, a * 2, none⟩ = some (.string xk) ∧ wr.drew.cell? ⟨g, a * 2 + 1, none⟩ = some (.string xv) := ⟨by simpa using x0, by simpa using x1, by simpa using x2, by simpa using x3⟩
        have hS1 : Hid (∀ w2, Turn No wr w2 → w2.cell? ⟨g, hh * 2, none⟩ = some (.string pk) ∧ w2.cell? ⟨g, hh * 2 + 1, none⟩ = some (.string pv) ∧ w2.cell? ⟨g, a * 2, none⟩ = some (.string xk) ∧ w2.cell? ⟨g, a * 2 + 1, none⟩ = some (.string xv)) := Lib.hid fun w2 t => HC.out w2 t
        go_region_held3 (fun W => W.cell? ⟨g, hh * 2, none⟩ = some (.string pk) ∧ W.cell? ⟨g, hh * 2 + 1, none⟩ = some (.string pv) ∧ W.cell? ⟨g, a * 2, none⟩ = some (.string xk) ∧ W.cell? ⟨g, a * 2 + 1, none⟩ = some (.string xv)) (first | (with_reducible exact hS0) | (with_reducible exact hS1.out _ HT2.out)) (first | (go_at_call 28; (with_reducible refine (C28.out pk pv xk xv _).mono ?_); rintro e w2 ⟨rfl, ht⟩; have HT2 : Hid (Turn No wr w2) := Lib.hid (((Turn.refl No wr).drewN _).trans ht); clear ht))
        clear hS0 hS1 x0 x1 x2 x3 HC
        go_wp2_with fail
        exact ⟨⟨ii, hh, by omega, by omega, by omega, rfl, by go_num, Lib.hid ⟨HN.out, HU.out.2.2.trans HT2.out⟩⟩, by simp [RowKit.intOf]; omega⟩
    · obtain rfl : ii = jj := by omega
      obtain ⟨c, hce⟩ : ∃ c, ii - m = c := ⟨_, rfl⟩
      have hS := HP.out.1
      rw [hce] at hS
      have hins := ins_right HX.out.2 hS.le hS.lo hS.hi
      have HI := Lib.hid hins
      have hcb : c ≤ B.length := hS.le
      have H2 : Hid (Mv w wr g cap P x B R 0) := Lib.hid ⟨by simpa using HX.out.1.no HP.out.2, HP.out.2.mono fun _ _ h => h.elim⟩
      have q2 : (ii : Int) - 1 = (a : Int) + (c : Int) := by have := HQ.out; omega
      have HV := Lib.hid hce
      have b5 : a + c < n := by have := HQ.out; omega
      clear HP hins hS hce
      obtain ⟨wx, hwx⟩ : ∃ x, x = wr := ⟨_, rfl⟩
      subst hwx
      go_wp2_with fail
      go_loopw [13] (fun k wr => ∃ t : Nat, t ≤ c ∧ k = .int .i64 ((a : Int) + (t : Int)) ∧ Hid (Mv w wr g cap P x B R t)) (fun k _ => a + c - (RowKit.intOf k).toNat)
      case atStart => exact ⟨0, Nat.zero_le _, by simp, H2⟩
      case round =>
        obtain ⟨t, ht, rfl, HM⟩ := hrel
        clear H2
        by_cases htc : t < c
        · obtain ⟨y, hy⟩ : ∃ y, B[t]? = some y := ⟨B[t]'(by omega), List.getElem?_eq_getElem (by omega)⟩
          obtain ⟨k, hk⟩ : ∃ k, a + t = k := ⟨_, rfl⟩
          obtain ⟨k1, hk1⟩ : ∃ k1, k + 1 = k1 := ⟨_, rfl⟩
          have hS := HM.out.right hy (k := k) (k1 := k1) (by have := HQ.out; omega) hk1.symm
          have HS := Lib.hid hS
          obtain ⟨xk, xv⟩ := x
          obtain ⟨yk, yv⟩ := y
          have x0 := HS.out.xi.1
          have x1 := HS.out.xi.2
          have x2 := HS.out.yj.1
          have x3 := HS.out.yj.2
          simp only at x0 x1 x2 x3
          have e0 := HS.out.th (k1 * 2)
          have e1 := HS.out.th (k1 * 2 + 1)
          have e2 := HS.out.th (k * 2)
          have e3 := HS.out.th (k * 2 + 1)
          have d0 : ¬ k * 2 = k1 * 2 := by omega
          have d1 : ¬ k * 2 + 1 = k1 * 2 := by omega
          have d2 : ¬ k * 2 = k1 * 2 + 1 := by omega
          have d3 : ¬ k1 * 2 = k * 2 := by omega
          have d4 : ¬ k1 * 2 + 1 = k * 2 := by omega
          have d5 : ¬ k1 * 2 = k * 2 + 1 := by omega
          have q5 : (a : Int) + (t : Int) = (k : Int) := by omega
          have q6 : (k : Int) + 1 = (k1 : Int) := by omega
          have q7 : (k : Int) < (a : Int) + (c : Int) := by omega
          have b6 : k1 < n := by omega
          have HK := Lib.hid (And.intro hk hk1)
          have HT := Lib.hid HM.out.tu
          clear hy hS hk hk1 HM
          rw [q5]
          go_wp2_with fail
          go_region
          all_goals go_wp2_with fail
          all_goals exact ⟨⟨t + 1, by omega, by have := HK.out; go_num, Lib.hid ⟨(by first | exact HS.out.one | exact HS.out.two), HT.out.trans (HS.out.tu _ _ _ _ _ _ _ _)⟩⟩, by have := HK.out; simp [RowKit.intOf]; omega⟩
        · obtain rfl : t = c := by omega
          have HF : Hid (Srd wr g cap P ([x] ++ B) R) := Lib.hid ⟨_, HM.out.ex, HI.out.1, HI.out.2⟩
          go_wp2_with fail
          (try simp only [Exit.inBlock, Exit.then])
          refine bodyPost_ret (results_none rfl _ _ _) rfl ?_
          exact ⟨rfl, HF.out, HM.out.tu⟩
end Go.Proofs.Ytjjmooegpoeomaa
