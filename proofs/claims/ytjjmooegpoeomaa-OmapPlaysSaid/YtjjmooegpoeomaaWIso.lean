/-
  insertionSort of a part of a row.
-/
import Derived.Test.YtjjmooegpoeomaaWSwr
namespace Go.Proofs.Ytjjmooegpoeomaa
open Go.RowKit Go.Lib
set_option linter.unusedVariables false
set_option linter.unusedSimpArgs false

/-- The pair at j goes down. -/
structure Isn (w0 wr : World) (g cap : Nat) (P S0 R : List Pr) (j : Nat) : Prop where
  ex : ∃ M x N, Hx wr g cap (P ++ (M ++ x :: N) ++ R) ∧ Down M x N ∧ Sim (M ++ x :: N) S0 ∧ P.length + M.length = j
  tu : Turn (fun k => k = g) w0 wr
/-- A part that is sorted. -/
def Srd (wr : World) (g cap : Nat) (P S0 R : List Pr) : Prop := ∃ S, Hx wr g cap (P ++ S ++ R) ∧ Sd S ∧ Sim S S0
theorem Srd.no {w w' : World} {g cap : Nat} {P S0 R : List Pr} (h : Srd w g cap P S0 R) (t : Turn No w w') : Srd w' g cap P S0 R := by
  obtain ⟨S, a, b, c⟩ := h
  exact ⟨S, a.no t, b, c⟩
section
variable {w0 wr : World} {g cap : Nat} {P S0 R : List Pr} {j : Nat}
theorem Isn.stop (h : Isn w0 wr g cap P S0 R j) (hj : j = P.length) : Srd wr g cap P S0 R := by
  obtain ⟨M, x, N, hx, hd, hs, hl⟩ := h.ex
  have hM : M = [] := List.eq_nil_of_length_eq_zero (by omega)
  exact ⟨M ++ x :: N, hx, hd.stop (.inl hM), hs⟩
theorem Isn.two (h : Isn w0 wr g cap P S0 R j) {jj : Nat} (hj : j = jj + 1) (hlt : P.length < j) : ∃ xk xv yk yv,
    (∀ W, Turn No wr W → W.cell? ⟨g, j * 2, none⟩ = some (.string xk) ∧ W.cell? ⟨g, j * 2 + 1, none⟩ = some (.string xv) ∧ W.cell? ⟨g, jj * 2, none⟩ = some (.string yk) ∧ W.cell? ⟨g, jj * 2 + 1, none⟩ = some (.string yv) ∧ ∀ q, W.frozen? ⟨g, q, none⟩ = false) ∧
    (kcmp xk yk < 0 → ∀ W, Turn No wr W → Isn w0 ((((W.setCell ⟨g, j * 2, none⟩ (.string yk)).setCell ⟨g, j * 2 + 1, none⟩ (.string yv)).setCell ⟨g, jj * 2, none⟩ (.string xk)).setCell ⟨g, jj * 2 + 1, none⟩ (.string xv)).drew g cap P S0 R jj) ∧
    (¬ kcmp xk yk < 0 → Srd wr g cap P S0 R) := by
  obtain ⟨M, x, N, hx, hd, hs, hl⟩ := h.ex
  rcases List.eq_nil_or_concat M with rfl | ⟨M', y, rfl⟩
  · simp at hl; omega
  · have e : P ++ (M' ++ [y] ++ x :: N) ++ R = (P ++ M') ++ y :: ([] ++ x :: (N ++ R)) := by simp
    rw [List.concat_eq_append] at hx hd hs hl
    rw [e] at hx
    have hjj : jj = (P ++ M').length := by rw [List.length_append] at hl ⊢; simp at hl; omega
    have hj2 : j = (P ++ M').length + 1 + ([] : List Pr).length := by simp at hjj ⊢; omega
    refine ⟨x.k, x.v, y.k, y.v, fun W t => ?_, fun hk W t => ?_, fun hk => ?_⟩
    · have hS := (hx.no t).sw hjj hj2
      exact ⟨hS.yj.1, hS.yj.2, hS.xi.1, hS.xi.2, hS.th⟩
    · have hS := (hx.no t).sw hjj hj2
      have hst := hd.step hk
      refine ⟨⟨M', x, y :: N, ?_, hst.1, hst.2.trans (by simpa using hs), by rw [hjj, List.length_append]⟩, (h.tu.then t (fun _ _ h => h.elim)).trans (hS.tu _ _ _ _ _ _ _ _)⟩
      have := hS.two
      simpa using this
    · refine ⟨M' ++ [y] ++ x :: N, ?_, hd.stop (.inr ⟨M', y, rfl, hk⟩), hs⟩
      rw [e]
      exact hx
end
/-- The part up to i is sorted. -/
structure Iso (w0 wr : World) (g cap : Nat) (P M0 R : List Pr) (i : Nat) : Prop where
  ex : ∃ S T, Hx wr g cap (P ++ S ++ (T ++ R)) ∧ Sd S ∧ Sim (S ++ T) M0 ∧ P.length + S.length = i
  tu : Turn (fun k => k = g) w0 wr
section
variable {w0 wr : World} {g cap : Nat} {P M0 R : List Pr} {i : Nat}
theorem Iso.next (h : Iso w0 wr g cap P M0 R i) (hi : i < P.length + M0.length) : ∃ S0 R2, Isn w0 wr g cap P S0 R2 i ∧
    ∀ wr2, Srd wr2 g cap P S0 R2 → Turn (fun k => k = g) w0 wr2 → Iso w0 wr2 g cap P M0 R (i + 1) := by
  obtain ⟨S, T, hx, hs, hm, hl⟩ := h.ex
  have hlen := hm.len
  rw [List.length_append] at hlen
  cases T with
  | nil => simp at hlen; omega
  | cons x T =>
    refine ⟨S ++ [x], T ++ R, ⟨⟨S, x, [], by simpa using hx, Down.start hs x, Sim.refl _, hl⟩, h.tu⟩, fun wr2 h2 t2 => ?_⟩
    obtain ⟨S', hx', hs', hm'⟩ := h2
    refine ⟨⟨S', T, hx', hs', ?_, ?_⟩, t2⟩
    · refine (hm'.append (Sim.refl T)).trans ?_
      simpa using hm
    · have := hm'.len
      simp at this
      omega
theorem Iso.last (h : Iso w0 wr g cap P M0 R i) (hi : i = P.length + M0.length) : Srd wr g cap P M0 R := by
  obtain ⟨S, T, hx, hs, hm, hl⟩ := h.ex
  have hlen := hm.len
  rw [List.length_append] at hlen
  have : T = [] := List.eq_nil_of_length_eq_zero (by omega)
  subst this
  exact ⟨S, by simpa using hx, hs, by simpa using hm⟩
end

set_option maxHeartbeats 4000000 in
theorem iso_any {w : World} {g cap : Nat} (P M0 R : List Pr) (h : Hx w g cap (P ++ M0 ++ R)) (hc : cap ≤ maxLen) {n a b : Nat} (hl : n ≤ 100000) (hn : n = (P ++ M0 ++ R).length) (ha : a = P.length) (hb : b = P.length + M0.length) :
    Calls Try.prog 54 #[.slice (some ⟨g, 0, none⟩) n cap, .int .i64 (a : Int), .int .i64 (b : Int), .func (.func 28) #[] #[]] w fun e w' => e = .returned (.tuple #[]) ∧ Srd w' g cap P M0 R ∧ Turn (fun k => k = g) w w' := by
  have hfit := h.fits
  rw [← hn] at hfit
  simp only [List.length_append] at hn
  have hbn : b ≤ n := by omega
  have hab : a ≤ b := by omega
  have HQ := Lib.hid (And.intro ha hb)
  have C28 := Lib.hid cmp28_any
  unfold maxLen at hc
  have H0 : Hid ((M0 = [] → Srd w g cap P M0 R) ∧ (M0 ≠ [] → Iso w w g cap P M0 R (a + 1))) := Lib.hid ⟨fun e => ⟨M0, h, by subst e; exact Sd.nil, Sim.refl _⟩, fun e => by
    cases M0 with
    | nil => exact absurd rfl e
    | cons x T => exact ⟨⟨[x], T, by simpa using h, Sd.one x, Sim.refl _, by simp; omega⟩, Turn.refl _ _⟩⟩
  clear h hn ha hb
  go_enter Try.func54, Try.ntmps54
  by_cases he : M0 = []
  · obtain rfl : a = b := by have := HQ.out; subst he; simp at this; omega
    have HE := Lib.hid (H0.out.1 he)
    clear H0 he HQ
    go_wp2_with fail
    go_loopw [8] (fun i wr => i = .int .i64 ((a : Int) + 1) ∧ wr = w) (fun _ _ => 0)
    case atStart => exact ⟨by go_num, rfl⟩
    case round =>
      obtain ⟨rfl, rfl⟩ := hrel
      go_wp2_with fail
      go_end0
      exact ⟨rfl, HE.out, Turn.refl _ _⟩
  · have hlt : a < b := by
      have h1 := HQ.out
      have : 0 < M0.length := List.length_pos_iff.2 he
      omega
    have HE := Lib.hid (H0.out.2 he)
    clear H0 he
    go_wp2_with fail
    go_loopw [8] (fun i wr => ∃ ii : Nat, a < ii ∧ ii ≤ b ∧ i = .int .i64 (ii : Int) ∧ Hid (Iso w wr g cap P M0 R ii)) (fun i _ => b - (RowKit.intOf i).toNat)
    case atStart => exact ⟨a + 1, by omega, by omega, by go_num, HE⟩
    case round =>
      obtain ⟨ii, h1, h2, rfl, HP⟩ := hrel
      clear HE
      by_cases hib : ii < b
      · obtain ⟨S0, R2, hI, hN⟩ := HP.out.next (by have := HQ.out; omega)
        have HI := Lib.hid hI
        have HN := Lib.hid hN
        obtain ⟨wx, hwx⟩ : ∃ x, x = wr := ⟨_, rfl⟩
        subst hwx
        clear hI hN HP
        go_wp2_with fail
        go_loopw [9] (fun j wr => ∃ jj : Nat, a ≤ jj ∧ jj ≤ ii ∧ j = .int .i64 (jj : Int) ∧ Hid (Isn w wr g cap P S0 R2 jj)) (fun j _ => (RowKit.intOf j).toNat)
        case atStart => exact ⟨ii, by omega, by omega, rfl, HI⟩
        case round =>
          obtain ⟨jj, h3, h4, rfl, HJ⟩ := hrel
          clear HI
          by_cases hja : a < jj
          · obtain ⟨j0, hj0⟩ : ∃ j0, jj = j0 + 1 := ⟨jj - 1, by omega⟩
            obtain ⟨xk, xv, yk, yv, hcell, hgo, hst⟩ := HJ.out.two hj0 (by have := HQ.out; omega)
            have HC := Lib.hid hcell
            have HG := Lib.hid hgo
            have HS := Lib.hid hst
            have HTJ := Lib.hid HJ.out.tu
            have q1 : (jj : Int) - 1 = (j0 : Int) := by omega
            have q2 : IntKind.i64.wrap ((jj : Int) - 1) = (j0 : Int) := by rw [IntKind.wrap_i64]; omega
            have q8 : IntKind.i64.wrap (j0 : Int) = (j0 : Int) := by rw [IntKind.wrap_i64]; omega
            have q3 : (0 : Int) ≤ (jj : Int) := by omega
            have q4 : (jj : Int) < (n : Int) := by omega
            have q5 : (0 : Int) ≤ (j0 : Int) := by omega
            have q6 : (j0 : Int) < (n : Int) := by omega
            have q7 : (a : Int) < (jj : Int) := by omega
            have b3 : j0 < n := by omega
            have b4 : jj < n := by omega
            have b5 : a ≤ j0 := by omega
            have b6 : j0 ≤ ii := by omega
            have hd : decide ((a : Int) < (jj : Int)) = true := decide_eq_true (by omega)
            have d0 : ¬ j0 * 2 = jj * 2 := by omega
            have d1 : ¬ j0 * 2 + 1 = jj * 2 := by omega
            have d2 : ¬ j0 * 2 = jj * 2 + 1 := by omega
            have d3 : ¬ jj * 2 = j0 * 2 := by omega
            have d4 : ¬ jj * 2 + 1 = j0 * 2 := by omega
            have d5 : ¬ jj * 2 = j0 * 2 + 1 := by omega
            have x0 := (HC.out wr (Turn.refl _ _)).1
            have x1 := (HC.out wr (Turn.refl _ _)).2.1
            have x2 := (HC.out wr (Turn.refl _ _)).2.2.1
            have x3 := (HC.out wr (Turn.refl _ _)).2.2.2.1
            have HL := Lib.hid hj0
            clear hcell hgo hst HJ hj0
            by_cases hk : kcmp xk yk < 0
            · have hkd : decide (kcmp xk yk < 0) = true := decide_eq_true hk
              have HG2 := Lib.hid (HG.out hk)
              clear hk HG HS
              go_wp2_with fail
              have hS0 : wr.drew.cell? ⟨g, jj * 2, none⟩ = some (.string xk) ∧ wr.drew.cell? ⟨g, jj * 2 + 1, none⟩ = some (.string xv) ∧ wr.drew.cell? ⟨g, j0 * 2, none⟩ = some (.string yk) ∧ wr.drew.cell? ⟨g, j0 * 2 + 1, none⟩ = some (.string yv) := ⟨by simpa using x0, by simpa using x1, by simpa using x2, by simpa using x3⟩
              have hS1 : Hid (∀ w2, Turn No wr w2 → w2.cell? ⟨g, jj * 2, none⟩ = some (.string xk) ∧ w2.cell? ⟨g, jj * 2 + 1, none⟩ = some (.string xv) ∧ w2.cell? ⟨g, j0 * 2, none⟩ = some (.string yk) ∧ w2.cell? ⟨g, j0 * 2 + 1, none⟩ = some (.string yv)) := Lib.hid fun w2 t => ⟨(HC.out w2 t).1, (HC.out w2 t).2.1, (HC.out w2 t).2.2.1, (HC.out w2 t).2.2.2.1⟩
              go_region_held3 (fun W => W.cell? ⟨g, jj * 2, none⟩ = some (.string xk) ∧ W.cell? ⟨g, jj * 2 + 1, none⟩ = some (.string xv) ∧ W.cell? ⟨g, j0 * 2, none⟩ = some (.string yk) ∧ W.cell? ⟨g, j0 * 2 + 1, none⟩ = some (.string yv)) (first | (with_reducible exact hS0) | (with_reducible exact hS1.out _ HT2.out)) (first | (go_at_call 28; (with_reducible refine (C28.out xk xv yk yv _).mono ?_); rintro e w2 ⟨rfl, ht⟩; have HT2 : Hid (Turn No wr w2) := Lib.hid (((Turn.refl No wr).drewN _).trans ht); clear ht))
              have y0 := (HC.out w2 HT2.out).1
              have y1 := (HC.out w2 HT2.out).2.1
              have y2 := (HC.out w2 HT2.out).2.2.1
              have y3 := (HC.out w2 HT2.out).2.2.2.1
              have e0 := (HC.out w2 HT2.out).2.2.2.2 (jj * 2)
              have e1 := (HC.out w2 HT2.out).2.2.2.2 (jj * 2 + 1)
              have e2 := (HC.out w2 HT2.out).2.2.2.2 (j0 * 2)
              have e3 := (HC.out w2 HT2.out).2.2.2.2 (j0 * 2 + 1)
              have HF := Lib.hid (HG2.out w2 HT2.out)
              clear HG2 hS0 hS1 x0 x1 x2 x3
              go_wp2_with fail
              go_region
              all_goals go_wp2_with fail
              all_goals exact ⟨⟨j0, by omega, by omega, by go_num, HF⟩, by have := HL.out; simp [RowKit.intOf]; omega⟩
            · have hkd : decide (kcmp xk yk < 0) = false := decide_eq_false hk
              have HS2 := Lib.hid (HS.out hk)
              clear hk HG HS
              go_wp2_with fail
              have hS0 : wr.drew.cell? ⟨g, jj * 2, none⟩ = some (.string xk) ∧ wr.drew.cell? ⟨g, jj * 2 + 1, none⟩ = some (.string xv) ∧ wr.drew.cell? ⟨g, j0 * 2, none⟩ = some (.string yk) ∧ wr.drew.cell? ⟨g, j0 * 2 + 1, none⟩ = some (.string yv) := ⟨by simpa using x0, by simpa using x1, by simpa using x2, by simpa using x3⟩
              have hS1 : Hid (∀ w2, Turn No wr w2 → w2.cell? ⟨g, jj * 2, none⟩ = some (.string xk) ∧ w2.cell? ⟨g, jj * 2 + 1, none⟩ = some (.string xv) ∧ w2.cell? ⟨g, j0 * 2, none⟩ = some (.string yk) ∧ w2.cell? ⟨g, j0 * 2 + 1, none⟩ = some (.string yv)) := Lib.hid fun w2 t => ⟨(HC.out w2 t).1, (HC.out w2 t).2.1, (HC.out w2 t).2.2.1, (HC.out w2 t).2.2.2.1⟩
              go_region_held3 (fun W => W.cell? ⟨g, jj * 2, none⟩ = some (.string xk) ∧ W.cell? ⟨g, jj * 2 + 1, none⟩ = some (.string xv) ∧ W.cell? ⟨g, j0 * 2, none⟩ = some (.string yk) ∧ W.cell? ⟨g, j0 * 2 + 1, none⟩ = some (.string yv)) (first | (with_reducible exact hS0) | (with_reducible exact hS1.out _ HT2.out)) (first | (go_at_call 28; (with_reducible refine (C28.out xk xv yk yv _).mono ?_); rintro e w2 ⟨rfl, ht⟩; have HT2 : Hid (Turn No wr w2) := Lib.hid (((Turn.refl No wr).drewN _).trans ht); clear ht))
              have HF := Lib.hid (HN.out w2 (HS2.out.no HT2.out) (HTJ.out.then HT2.out (fun _ _ h => h.elim)))
              clear hS0 hS1 x0 x1 x2 x3 HS2 HN
              go_wp2_with fail
              exact ⟨⟨ii + 1, by omega, by omega, by go_num, HF⟩, by simp [RowKit.intOf]; omega⟩
          · obtain rfl : jj = a := by omega
            have hd : decide ((jj : Int) < (jj : Int)) = false := decide_eq_false (by omega)
            have HS2 := Lib.hid (HJ.out.stop HQ.out.1)
            have HF := Lib.hid fun n => (HN.out _ (HS2.out.no ((Turn.refl No wr).drewN n)) (HJ.out.tu.drewN n))
            go_wp2_with fail
            go_quiet (fail)
            go_wp2_with fail
            all_goals exact ⟨⟨ii + 1, by omega, by omega, by go_num, Lib.hid (HF.out _)⟩, by simp [RowKit.intOf]; omega⟩
      · obtain rfl : ii = b := by omega
        have HF := Lib.hid (HP.out.last HQ.out.2)
        go_wp2_with fail
        go_end0
        exact ⟨rfl, HF.out, HP.out.tu⟩
end Go.Proofs.Ytjjmooegpoeomaa
