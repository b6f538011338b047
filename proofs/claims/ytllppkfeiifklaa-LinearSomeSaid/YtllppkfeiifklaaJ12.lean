/-
  insertionSort of a part of a row.
  symMerge: one pair ahead of a sorted part.
  symMerge: one pair behind a sorted part.
-/
import Derived.Test.YtllppkfeiifklaaJ10
namespace Go.Proofs.Ytllppkfeiifklaa
open Go.RowKit Go.Lib
set_option linter.unusedVariables false
set_option maxRecDepth 20000
set_option linter.unusedSimpArgs false

/-- The pair at j goes down. -/
structure Isn (w0 wr : World) (g cap : Nat) (P S0 R : List Pr) (j : Nat) : Prop where
  ex : ∃ M x N, Hx wr g cap (P ++ (M ++ x :: N) ++ R) ∧ Down M x N ∧ Sim (M ++ x :: N) S0 ∧ P.length + M.length = j
  tu : Turn (fun k => k = g) w0 wr
/-- A part that is sorted. -/
def Srd (wr : World) (g cap : Nat) (P S0 R : List Pr) : Prop := ∃ S, Hx wr g cap (P ++ S ++ R) ∧ Sd S ∧ Sim S S0
theorem Srd.no {w w' : World} {g cap : Nat} {P S0 R : List Pr} (h : Srd w g cap P S0 R) (t : Turn No w w') : Srd w' g cap P S0 R := by
  obtain ⟨S, a, b, c⟩ := h
  exact ⟨S, a.no t, b, c⟩
section
variable {w0 wr : World} {g cap : Nat} {P S0 R : List Pr} {j : Nat}
theorem Isn.stop (h : Isn w0 wr g cap P S0 R j) (hj : j = P.length) : Srd wr g cap P S0 R := by
  obtain ⟨M, x, N, hx, hd, hs, hl⟩ := h.ex
  have hM : M = [] := List.eq_nil_of_length_eq_zero (by omega)
  exact ⟨M ++ x :: N, hx, hd.stop (.inl hM), hs⟩
theorem Isn.two (h : Isn w0 wr g cap P S0 R j) {jj : Nat} (hj : j = jj + 1) (hlt : P.length < j) : ∃ xk xv yk yv,
    (∀ W, Turn No wr W → W.cell? ⟨g, j * 2, none⟩ = some (.string xk) ∧ W.cell? ⟨g, j * 2 + 1, none⟩ = some (.string xv) ∧ W.cell? ⟨g, jj * 2, none⟩ = some (.string yk) ∧ W.cell? ⟨g, jj * 2 + 1, none⟩ = some (.string yv) ∧ ∀ q, W.frozen? ⟨g, q, none⟩ = false) ∧
    (kcmp xk yk < 0 → ∀ W, Turn No wr W → Isn w0 ((((W.setCell ⟨g, j * 2, none⟩ (.string yk)).setCell ⟨g, j * 2 + 1, none⟩ (.string yv)).setCell ⟨g, jj * 2, none⟩ (.string xk)).setCell ⟨g, jj * 2 + 1, none⟩ (.string xv)).drew g cap P S0 R jj) ∧
    (¬ kcmp xk yk < 0 → Srd wr g cap P S0 R) := by
  obtain ⟨M, x, N, hx, hd, hs, hl⟩ := h.ex
  rcases List.eq_nil_or_concat M with rfl | ⟨M', y, rfl⟩
  · simp at hl; omega
  · have e : P ++ (M' ++ [y] ++ x :: N) ++ R = (P ++ M') ++ y :: ([] ++ x :: (N ++ R)) := by simp
    rw [List.concat_eq_append] at hx hd hs hl
    rw [e] at hx
    have hjj : jj = (P ++ M').length := by rw [List.length_append] at hl ⊢; simp at hl; omega
    have hj2 : j = (P ++ M').length + 1 + ([] : List Pr).length := by simp at hjj ⊢; omega
    refine ⟨x.k, x.v, y.k, y.v, fun W t => ?_, fun hk W t => ?_, fun hk => ?_⟩
    · have hS := (hx.no t).sw hjj hj2
      exact ⟨hS.yj.1, hS.yj.2, hS.xi.1, hS.xi.2, hS.th⟩
    · have hS := (hx.no t).sw hjj hj2
      have hst := hd.step hk
      refine ⟨⟨M', x, y :: N, ?_, hst.1, hst.2.trans (by simpa using hs), by rw [hjj, List.length_append]⟩, (h.tu.then t (fun _ _ h => h.elim)).trans (hS.tu _ _ _ _ _ _ _ _)⟩
      have := hS.two
      simpa using this
    · refine ⟨M' ++ [y] ++ x :: N, ?_, hd.stop (.inr ⟨M', y, rfl, hk⟩), hs⟩
      rw [e]
      exact hx
end
/-- The part up to i is sorted. -/
structure Iso (w0 wr : World) (g cap : Nat) (P M0 R : List Pr) (i : Nat) : Prop where
  ex : ∃ S T, Hx wr g cap (P ++ S ++ (T ++ R)) ∧ Sd S ∧ Sim (S ++ T) M0 ∧ P.length + S.length = i
  tu : Turn (fun k => k = g) w0 wr
section
variable {w0 wr : World} {g cap : Nat} {P M0 R : List Pr} {i : Nat}
theorem Iso.next (h : Iso w0 wr g cap P M0 R i) (hi : i < P.length + M0.length) : ∃ S0 R2, Isn w0 wr g cap P S0 R2 i ∧
    ∀ wr2, Srd wr2 g cap P S0 R2 → Turn (fun k => k = g) w0 wr2 → Iso w0 wr2 g cap P M0 R (i + 1) := by
  obtain ⟨S, T, hx, hs, hm, hl⟩ := h.ex
  have hlen := hm.len
  rw [List.length_append] at hlen
  cases T with
  | nil => simp at hlen; omega
  | cons x T =>
    refine ⟨S ++ [x], T ++ R, ⟨⟨S, x, [], by simpa using hx, Down.start hs x, Sim.refl _, hl⟩, h.tu⟩, fun wr2 h2 t2 => ?_⟩
    obtain ⟨S', hx', hs', hm'⟩ := h2
    refine ⟨⟨S', T, hx', hs', ?_, ?_⟩, t2⟩
    · refine (hm'.append (Sim.refl T)).trans ?_
      simpa using hm
    · have := hm'.len
      simp at this
      omega
theorem Iso.last (h : Iso w0 wr g cap P M0 R i) (hi : i = P.length + M0.length) : Srd wr g cap P M0 R := by
  obtain ⟨S, T, hx, hs, hm, hl⟩ := h.ex
  have hlen := hm.len
  rw [List.length_append] at hlen
  have : T = [] := List.eq_nil_of_length_eq_zero (by omega)
  subst this
  exact ⟨S, by simpa using hx, hs, by simpa using hm⟩
end

set_option maxHeartbeats 4000000 in
theorem iso_any {w : World} {g cap : Nat} (P M0 R : List Pr) (h : Hx w g cap (P ++ M0 ++ R)) (hc : cap ≤ maxLen) {n a b : Nat} (hl : n ≤ 100000) (hn : n = (P ++ M0 ++ R).length) (ha : a = P.length) (hb : b = P.length + M0.length) :
    Calls Try.prog 104 #[.slice (some ⟨g, 0, none⟩) n cap, .int .i64 (a : Int), .int .i64 (b : Int), .func (.func 59) #[] #[]] w fun e w' => e = .returned (.tuple #[]) ∧ Srd w' g cap P M0 R ∧ Turn (fun k => k = g) w w' := by
  have hfit := h.fits
  rw [← hn] at hfit
  simp only [List.length_append] at hn
  have hbn : b ≤ n := by omega
  have hab : a ≤ b := by omega
  have HQ := Lib.hid (And.intro ha hb)
  have C28 := Lib.hid cmp28_any
  unfold maxLen at hc
  have H0 : Hid ((M0 = [] → Srd w g cap P M0 R) ∧ (M0 ≠ [] → Iso w w g cap P M0 R (a + 1))) := Lib.hid ⟨fun e => ⟨M0, h, by subst e; exact Sd.nil, Sim.refl _⟩, fun e => by
    cases M0 with
    | nil => exact absurd rfl e
    | cons x T => exact ⟨⟨[x], T, by simpa using h, Sd.one x, Sim.refl _, by simp; omega⟩, Turn.refl _ _⟩⟩
  clear h hn ha hb
  go_enter Try.func104, Try.ntmps104
  by_cases he : M0 = []
  · obtain rfl : a = b := by have := HQ.out; subst he; simp at this; omega
    have HE := Lib.hid (H0.out.1 he)
    clear H0 he HQ
    go_wp2_with fail
    go_loopw [8] (fun i wr => i = .int .i64 ((a : Int) + 1) ∧ wr = w) (fun _ _ => 0)
    case atStart => exact ⟨by go_num, rfl⟩
    case round =>
      obtain ⟨rfl, rfl⟩ := hrel
      go_wp2_with fail
      go_end0
      exact ⟨rfl, HE.out, Turn.refl _ _⟩
  · have hlt : a < b := by
      have h1 := HQ.out
      have : 0 < M0.length := List.length_pos_iff.2 he
      omega
    have HE := Lib.hid (H0.out.2 he)
    clear H0 he
    go_wp2_with fail
    go_loopw [8] (fun i wr => ∃ ii : Nat, a < ii ∧ ii ≤ b ∧ i = .int .i64 (ii : Int) ∧ Hid (Iso w wr g cap P M0 R ii)) (fun i _ => b - (RowKit.intOf i).toNat)
    case atStart => exact ⟨a + 1, by omega, by omega, by go_num, HE⟩
    case round =>
      obtain ⟨ii, h1, h2, rfl, HP⟩ := hrel
      clear HE
      by_cases hib : ii < b
      · obtain ⟨S0, R2, hI, hN⟩ := HP.out.next (by have := HQ.out; omega)
        have HI := Lib.hid hI
        have HN := Lib.hid hN
        obtain ⟨wx, hwx⟩ : ∃ x, x = wr := ⟨_, rfl⟩
        subst hwx
        clear hI hN HP
        go_wp2_with fail
        go_loopw [9] (fun j wr => ∃ jj : Nat, a ≤ jj ∧ jj ≤ ii ∧ j = .int .i64 (jj : Int) ∧ Hid (Isn w wr g cap P S0 R2 jj)) (fun j _ => (RowKit.intOf j).toNat)
        case atStart => exact ⟨ii, by omega, by omega, rfl, HI⟩
        case round =>
          obtain ⟨jj, h3, h4, rfl, HJ⟩ := hrel
          clear HI
          by_cases hja : a < jj
          · obtain ⟨j0, hj0⟩ : ∃ j0, jj = j0 + 1 := ⟨jj - 1, by omega⟩
            obtain ⟨xk, xv, yk, yv, hcell, hgo, hst⟩ := HJ.out.two hj0 (by have := HQ.out; omega)
            have HC := Lib.hid hcell
            have HG := Lib.hid hgo
            have HS := Lib.hid hst
            have HTJ := Lib.hid HJ.out.tu
            have q1 : (jj : Int) - 1 = (j0 : Int) := by omega
            have q2 : IntKind.i64.wrap ((jj : Int) - 1) = (j0 : Int) := by rw [IntKind.wrap_i64]; omega
            have q8 : IntKind.i64.wrap (j0 : Int) = (j0 : Int) := by rw [IntKind.wrap_i64]; omega
            have q3 : (0 : Int) ≤ (jj : Int) := by omega
            have q4 : (jj : Int) < (n : Int) := by omega
            have q5 : (0 : Int) ≤ (j0 : Int) := by omega
            have q6 : (j0 : Int) < (n : Int) := by omega
            have q7 : (a : Int) < (jj : Int) := by omega
            have b3 : j0 < n := by omega
            have b4 : jj < n := by omega
            have b5 : a ≤ j0 := by omega
            have b6 : j0 ≤ ii := by omega
            have hd : decide ((a : Int) < (jj : Int)) = true := decide_eq_true (by omega)
            have d0 : ¬ j0 * 2 = jj * 2 := by omega
            have d1 : ¬ j0 * 2 + 1 = jj * 2 := by omega
            have d2 : ¬ j0 * 2 = jj * 2 + 1 := by omega
            have d3 : ¬ jj * 2 = j0 * 2 := by omega
            have d4 : ¬ jj * 2 + 1 = j0 * 2 := by omega
            have d5 : ¬ jj * 2 = j0 * 2 + 1 := by omega
            have x0 := (HC.out wr (Turn.refl _ _)).1
            have x1 := (HC.out wr (Turn.refl _ _)).2.1
            have x2 := (HC.out wr (Turn.refl _ _)).2.2.1
            have x3 := (HC.out wr (Turn.refl _ _)).2.2.2.1
            have HL := Lib.hid hj0
            clear hcell hgo hst HJ hj0
            by_cases hk : kcmp xk yk < 0
            · have hkd : decide (kcmp xk yk < 0) = true := decide_eq_true hk
              have HG2 := Lib.hid (HG.out hk)
              clear hk HG HS
              go_wp2_with fail
              have hS0 : wr.drew.cell? ⟨g, jj * 2, none⟩ = some (.string xk) ∧ wr.drew.cell? ⟨g, jj * 2 + 1, none⟩ = some (.string xv) ∧ wr.drew.cell? ⟨g, j0 * 2, none⟩ = some (.string yk) ∧ wr.drew.cell? ⟨g, j0 * 2 + 1, none⟩ = some (.string yv) := ⟨by simpa using x0, by simpa using x1, by simpa using x2, by simpa using x3⟩
              have hS1 : Hid (∀ w2, Turn No wr w2 → w2.cell? ⟨g, jj * 2, none⟩ = some (.string xk) ∧ w2.cell? ⟨g, jj * 2 + 1, none⟩ = some (.string xv) ∧ w2.cell? ⟨g, j0 * 2, none⟩ = some (.string yk) ∧ w2.cell? ⟨g, j0 * 2 + 1, none⟩ = some (.string yv)) := Lib.hid fun w2 t => ⟨(HC.out w2 t).1, (HC.out w2 t).2.1, (HC.out w2 t).2.2.1, (HC.out w2 t).2.2.2.1⟩
              go_region_held3 (fun W => W.cell? ⟨g, jj * 2, none⟩ = some (.string xk) ∧ W.cell? ⟨g, jj * 2 + 1, none⟩ = some (.string xv) ∧ W.cell? ⟨g, j0 * 2, none⟩ = some (.string yk) ∧ W.cell? ⟨g, j0 * 2 + 1, none⟩ = some (.string yv)) (first | (with_reducible exact hS0) | (with_reducible exact hS1.out _ HT2.out)) (first | (go_at_call 59; (with_reducible refine (C28.out xk xv yk yv _).mono ?_); rintro e w2 ⟨rfl, ht⟩; have HT2 : Hid (Turn No wr w2) := Lib.hid (((Turn.refl No wr).drewN _).trans ht); clear ht))
              have y0 := (HC.out w2 HT2.out).1
              have y1 := (HC.out w2 HT2.out).2.1
              have y2 := (HC.out w2 HT2.out).2.2.1
              have y3 := (HC.out w2 HT2.out).2.2.2.1
              have e0 := (HC.out w2 HT2.out).2.2.2.2 (jj * 2)
              have e1 := (HC.out w2 HT2.out).2.2.2.2 (jj * 2 + 1)
              have e2 := (HC.out w2 HT2.out).2.2.2.2 (j0 * 2)
              have e3 := (HC.out w2 HT2.out).2.2.2.2 (j0 * 2 + 1)
              have HF := Lib.hid (HG2.out w2 HT2.out)
              clear HG2 hS0 hS1 x0 x1 x2 x3
              go_wp2_with fail
              go_region
              all_goals go_wp2_with fail
              all_goals exact ⟨⟨j0, by omega, by omega, by go_num, HF⟩, by have := HL.out; simp [RowKit.intOf]; omega⟩
            · have hkd : decide (kcmp xk yk < 0) = false := decide_eq_false hk
              have HS2 := Lib.hid (HS.out hk)
              clear hk HG HS
              go_wp2_with fail
              have hS0 : wr.drew.cell? ⟨g, jj * 2, none⟩ = some (.string xk) ∧ wr.drew.cell? ⟨g, jj * 2 + 1, none⟩ = some (.string xv) ∧ wr.drew.cell? ⟨g, j0 * 2, none⟩ = some (.string yk) ∧ wr.drew.cell? ⟨g, j0 * 2 + 1, none⟩ = some (.string yv) := ⟨by simpa using x0, by simpa using x1, by simpa using x2, by simpa using x3⟩
              have hS1 : Hid (∀ w2, Turn No wr w2 → w2.cell? ⟨g, jj * 2, none⟩ = some (.string xk) ∧ w2.cell? ⟨g, jj * 2 + 1, none⟩ = some (.string xv) ∧ w2.cell? ⟨g, j0 * 2, none⟩ = some (.string yk) ∧ w2.cell? ⟨g, j0 * 2 + 1, none⟩ = some (.string yv)) := Lib.hid fun w2 t => ⟨(HC.out w2 t).1, (HC.out w2 t).2.1, (HC.out w2 t).2.2.1, (HC.out w2 t).2.2.2.1⟩
              go_region_held3 (fun W => W.cell? ⟨g, jj * 2, none⟩ = some (.string xk) ∧ W.cell? ⟨g, jj * 2 + 1, none⟩ = some (.string xv) ∧ W.cell? ⟨g, j0 * 2, none⟩ = some (.string yk) ∧ W.cell? ⟨g, j0 * 2 + 1, none⟩ = some (.string yv)) (first | (with_reducible exact hS0) | (with_reducible exact hS1.out _ HT2.out)) (first | (go_at_call 59; (with_reducible refine (C28.out xk xv yk yv _).mono ?_); rintro e w2 ⟨rfl, ht⟩; have HT2 : Hid (Turn No wr w2) := Lib.hid (((Turn.refl No wr).drewN _).trans ht); clear ht))
              have HF := Lib.hid (HN.out w2 (HS2.out.no HT2.out) (HTJ.out.then HT2.out (fun _ _ h => h.elim)))
              clear hS0 hS1 x0 x1 x2 x3 HS2 HN
              go_wp2_with fail
              exact ⟨⟨ii + 1, by omega, by omega, by go_num, HF⟩, by simp [RowKit.intOf]; omega⟩
          · obtain rfl : jj = a := by omega
            have hd : decide ((jj : Int) < (jj : Int)) = false := decide_eq_false (by omega)
            have HS2 := Lib.hid (HJ.out.stop HQ.out.1)
            have HF := Lib.hid fun n => (HN.out _ (HS2.out.no ((Turn.refl No wr).drewN n)) (HJ.out.tu.drewN n))
            go_wp2_with fail
            go_quiet (fail)
            go_wp2_with fail
            all_goals exact ⟨⟨ii + 1, by omega, by omega, by go_num, Lib.hid (HF.out _)⟩, by simp [RowKit.intOf]; omega⟩
      · obtain rfl : ii = b := by omega
        have HF := Lib.hid (HP.out.last HQ.out.2)
        go_wp2_with fail
        go_end0
        exact ⟨rfl, HF.out, HP.out.tu⟩
end Go.Proofs.Ytllppkfeiifklaa
namespace Go.Proofs.Ytllppkfeiifklaa
open Go.RowKit Go.Lib
set_option linter.unusedVariables false
set_option maxRecDepth 20000
set_option linter.unusedSimpArgs false

/-- A search in a sorted part: what is below i stands ahead, what is from j on does not. -/
structure Sr (f : Pr → Prop) (B : List Pr) (ci cj : Nat) : Prop where
  le : cj ≤ B.length
  lo : ci = 0 ∨ ∃ p, B[ci - 1]? = some p ∧ f p
  hi : cj = B.length ∨ ∃ p, B[cj]? = some p ∧ ¬ f p
theorem Sr.start (f : Pr → Prop) (B : List Pr) : Sr f B 0 B.length := ⟨Nat.le_refl _, .inl rfl, .inl rfl⟩
theorem Sr.up {f : Pr → Prop} {B : List Pr} {ci cj c : Nat} (h : Sr f B ci cj) {p : Pr} (hp : B[c]? = some p) (hf : f p) : Sr f B (c + 1) cj := ⟨h.le, .inr ⟨p, by simpa using hp, hf⟩, h.hi⟩
theorem Sr.down {f : Pr → Prop} {B : List Pr} {ci cj c : Nat} (h : Sr f B ci cj) {p : Pr} (hp : B[c]? = some p) (hf : ¬ f p) : Sr f B ci c := ⟨Nat.le_of_lt (List.getElem?_eq_some_iff.1 hp).1, h.lo, .inr ⟨p, hp, hf⟩⟩
/-- A pair on its way through a part. -/
structure Mv (w0 wr : World) (g cap : Nat) (P : List Pr) (x : Pr) (B R : List Pr) (t : Nat) : Prop where
  ex : Hx wr g cap (P ++ (B.take t ++ x :: B.drop t) ++ R)
  tu : Turn (fun k => k = g) w0 wr
section
variable {w0 wr : World} {g cap : Nat} {P B R : List Pr} {x : Pr} {t : Nat}
theorem mv_form {y : Pr} (hy : B[t]? = some y) : P ++ (B.take t ++ x :: B.drop t) ++ R = (P ++ B.take t) ++ x :: ([] ++ y :: (B.drop (t + 1) ++ R)) ∧
    P ++ (B.take (t + 1) ++ x :: B.drop (t + 1)) ++ R = (P ++ B.take t) ++ y :: ([] ++ x :: (B.drop (t + 1) ++ R)) := by
  constructor
  · rw [drop_cons hy]; simp
  · rw [List.take_add_one, hy]; simp
theorem Mv.right (h : Mv w0 wr g cap P x B R t) {y : Pr} (hy : B[t]? = some y) {k k1 : Nat} (hk : k = P.length + t) (hk1 : k1 = k + 1) :
    Sw wr g cap k k1 x y (P ++ (B.take (t + 1) ++ x :: B.drop (t + 1)) ++ R) := by
  have hb := (List.getElem?_eq_some_iff.1 hy).1
  have h1 := h.ex
  rw [(mv_form hy).1] at h1
  rw [(mv_form hy).2]
  exact h1.sw (by rw [List.length_append, List.length_take]; omega) (by rw [List.length_append, List.length_take]; simp; omega)
theorem Mv.left (h : Mv w0 wr g cap P x B R (t + 1)) {y : Pr} (hy : B[t]? = some y) {k k1 : Nat} (hk : k = P.length + t) (hk1 : k1 = k + 1) :
    Sw wr g cap k k1 y x (P ++ (B.take t ++ x :: B.drop t) ++ R) := by
  have hb := (List.getElem?_eq_some_iff.1 hy).1
  have h1 := h.ex
  rw [(mv_form hy).2] at h1
  rw [(mv_form hy).1]
  exact h1.sw (by rw [List.length_append, List.length_take]; omega) (by rw [List.length_append, List.length_take]; simp; omega)
end
theorem at_mid (P A B R : List Pr) {i : Nat} (h : P.length ≤ i) : (P ++ A ++ B ++ R)[i]? = (A ++ B ++ R)[i - P.length]? := by
  rw [List.append_assoc, List.append_assoc, List.getElem?_append_right h, List.append_assoc]
theorem at_a {P A B R : List Pr} {i : Nat} {p : Pr} (hp : A[i]? = some p) : (P ++ A ++ B ++ R)[P.length + i]? = some p := by
  have := (List.getElem?_eq_some_iff.1 hp).1
  rw [at_mid _ _ _ _ (by omega), Nat.add_sub_cancel_left, List.append_assoc, List.getElem?_append_left this, hp]
theorem at_b {P A B R : List Pr} {i : Nat} {p : Pr} (hp : B[i]? = some p) : (P ++ A ++ B ++ R)[P.length + A.length + i]? = some p := by
  have := (List.getElem?_eq_some_iff.1 hp).1
  rw [at_mid _ _ _ _ (by omega), show P.length + A.length + i - P.length = A.length + i by omega, List.append_assoc, List.getElem?_append_right (by omega), Nat.add_sub_cancel_left, List.getElem?_append_left this, hp]

set_option maxRecDepth 100000 in
set_option maxHeartbeats 4000000 in
theorem sym_left {w : World} {g cap : Nat} (P B R : List Pr) (x : Pr) (h : Hx w g cap (P ++ [x] ++ B ++ R)) (hB : Sd B) (hc : cap ≤ maxLen) {n a m b : Nat} (hl : n ≤ 100000) (hn : n = (P ++ [x] ++ B ++ R).length) (ha : a = P.length) (hm : m = a + 1) (hb : b = m + B.length) :
    Calls Try.prog 105 #[.slice (some ⟨g, 0, none⟩) n cap, .int .i64 (a : Int), .int .i64 (m : Int), .int .i64 (b : Int), .func (.func 59) #[] #[]] w fun e w' => e = .returned (.tuple #[]) ∧ Srd w' g cap P ([x] ++ B) R ∧ Turn (fun k => k = g) w w' := by
  have hfit := h.fits
  rw [← hn] at hfit
  simp only [List.length_append, List.length_cons, List.length_nil] at hn
  have hbn : b ≤ n := by omega
  have han : a < n := by omega
  have hmb : m ≤ b := by omega
  have q1 : (m : Int) - (a : Int) = 1 := by omega
  have qa : (0 : Int) ≤ (a : Int) := by omega
  have qb : (a : Int) < (n : Int) := by omega
  have HQ := Lib.hid (And.intro ha (And.intro hm hb))
  have HX := Lib.hid (And.intro h hB)
  have C28 := Lib.hid cmp28_any
  have H0 : Hid (Sr (fun p => kl p.k x.k) B (m - m) (b - m) ∧ Turn No w w) := Lib.hid ⟨by rw [Nat.sub_self, show b - m = B.length by omega]; exact Sr.start _ _, Turn.refl _ _⟩
  unfold maxLen at hc
  clear h hB hn ha hm hb
  go_enter Try.func105, Try.ntmps105
  go_wp2_with fail
  go_loopw [10, 11] (fun i j wr => ∃ ii jj : Nat, m ≤ ii ∧ ii ≤ jj ∧ jj ≤ b ∧ i = .int .i64 (ii : Int) ∧ j = .int .i64 (jj : Int) ∧ Hid (Sr (fun p => kl p.k x.k) B (ii - m) (jj - m) ∧ Turn No w wr)) (fun i j _ => (RowKit.intOf j).toNat - (RowKit.intOf i).toNat)
  case atStart => exact ⟨m, b, Nat.le_refl _, hmb, Nat.le_refl _, rfl, rfl, H0⟩
  case round =>
    obtain ⟨ii, jj, h1, h2, h3, rfl, rfl, HP⟩ := hrel
    clear H0
    by_cases hlt : ii < jj
    · obtain ⟨hh, hhe⟩ : ∃ hh, (ii + jj) / 2 = hh := ⟨_, rfl⟩
      have b1 : ii ≤ hh := by omega
      have b2 : hh < jj := by omega
      have q2 : ((ii : Int) + (jj : Int)) / 2 = (hh : Int) := by omega
      have q3 : (0 : Int) ≤ (hh : Int) := by omega
      have q4 : (hh : Int) < (n : Int) := by omega
      obtain ⟨p, hp⟩ : ∃ p, B[hh - m]? = some p := ⟨B[hh - m]'(by have := HQ.out; omega), List.getElem?_eq_getElem (by have := HQ.out; omega)⟩
      have hpl := at_b (P := P) (A := [x]) (R := R) hp
      rw [show P.length + [x].length + (hh - m) = hh by have := HQ.out; simp; omega] at hpl
      have hxl := at_a (P := P) (A := [x]) (B := B) (R := R) (i := 0) rfl
      rw [show P.length + 0 = a by have := HQ.out; omega] at hxl
      have HU := Lib.hid (And.intro (fun hf => HP.out.1.up hp hf) (And.intro (fun hf => HP.out.1.down hp hf) HP.out.2))
      obtain ⟨pk, pv⟩ := p
      obtain ⟨xk, xv⟩ := x
      have HC : Hid (∀ w2, Turn No wr w2 → w2.cell? ⟨g, hh * 2, none⟩ = some (.string pk) ∧ w2.cell? ⟨g, hh * 2 + 1, none⟩ = some (.string pv) ∧ w2.cell? ⟨g, a * 2, none⟩ = some (.string xk) ∧ w2.cell? ⟨g, a * 2 + 1, none⟩ = some (.string xv)) := Lib.hid fun w2 t => ⟨(((HX.out.1.no HP.out.2).no t).cells hpl).1, (((HX.out.1.no HP.out.2).no t).cells hpl).2, (((HX.out.1.no HP.out.2).no t).cells hxl).1, (((HX.out.1.no HP.out.2).no t).cells hxl).2⟩
      have x0 := (HC.out wr (Turn.refl _ _)).1
      have x1 := (HC.out wr (Turn.refl _ _)).2.1
      have x2 := (HC.out wr (Turn.refl _ _)).2.2.1
      have x3 := (HC.out wr (Turn.refl _ _)).2.2.2
      have HE := Lib.hid hhe
      clear hhe HP hp hpl hxl
      by_cases hk : kcmp pk xk < 0
      · have hkd : decide (kcmp pk xk < 0) = true := decide_eq_true hk
        have HN := Lib.hid (HU.out.1 hk)
        clear hk
        go_wp2_with fail
        have hS0 : wr.drew.cell? ⟨g, hh * 2, none⟩ = some (.string pk) ∧ wr.drew.cell? ⟨g, hh * 2 + 1, none⟩ = some (.string pv) ∧ wr.drew.cell? ⟨g, a * 2, none⟩ = some (.string xk) ∧ wr.drew.cell? ⟨g, a * 2 + 1, none⟩ = some (.string xv) := ⟨by simpa using x0, by simpa using x1, by simpa using x2, by simpa using x3⟩
        have hS1 : Hid (∀ w2, Turn No wr w2 → w2.cell? ⟨g, hh * 2, none⟩ = some (.string pk) ∧ w2.cell? ⟨g, hh * 2 + 1, none⟩ = some (.string pv) ∧ w2.cell? ⟨g, a * 2, none⟩ = some (.string xk) ∧ w2.cell? ⟨g, a * 2 + 1, none⟩ = some (.string xv)) := Lib.hid fun w2 t => HC.out w2 t
        go_region_held3 (fun W => W.cell? ⟨g, hh * 2, none⟩ = some (.string pk) ∧ W.cell? ⟨g, hh * 2 + 1, none⟩ = some (.string pv) ∧ W.cell? ⟨g, a * 2, none⟩ = some (.string xk) ∧ W.cell? ⟨g, a * 2 + 1, none⟩ = some (.string xv)) (first | (with_reducible exact hS0) | (with_reducible exact hS1.out _ HT2.out)) (first | (go_at_call 59; (with_reducible refine (C28.out pk pv xk xv _).mono ?_); rintro e w2 ⟨rfl, ht⟩; have HT2 : Hid (Turn No wr w2) := Lib.hid (((Turn.refl No wr).drewN _).trans ht); clear ht))
        clear hS0 hS1 x0 x1 x2 x3 HC
        go_wp2_with fail
        exact ⟨⟨hh + 1, jj, by omega, by omega, h3, by go_num, rfl, Lib.hid ⟨by rw [show hh + 1 - m = hh - m + 1 by omega]; exact HN.out, HU.out.2.2.trans HT2.out⟩⟩, by simp [RowKit.intOf]; omega⟩
      · have hkd : decide (kcmp pk xk < 0) = false := decide_eq_false hk
        have HN := Lib.hid (HU.out.2.1 hk)
        clear hk
        go_wp2_with fail
        have hS0 : wr.drew.cell? ⟨g, hh * 2, none⟩ = some (.string pk) ∧ wr.drew.cell? ⟨g, hh * 2 + 1, none⟩ = some (.string pv) ∧ wr.drew.cell? ⟨g, a * 2, none⟩ = some (.string xk) ∧ wr.drew.cell? ⟨g, a * 2 + 1, none⟩ = some (.string xv) := ⟨by simpa using x0, by simpa using x1, by simpa using x2, by simpa using x3⟩
        have hS1 : Hid (∀ w2, Turn No wr w2 → w2.cell? ⟨g, hh * 2, none⟩ = some (.string pk) ∧ w2.cell? ⟨g, hh * 2 + 1, none⟩ = some (.string pv) ∧ w2.cell? ⟨g, a * 2, none⟩ = some (.string xk) ∧ w2.cell? ⟨g, a * 2 + 1, none⟩ = some (.string xv)) := Lib.hid fun w2 t => HC.out w2 t
        go_region_held3 (fun W => W.cell? ⟨g, hh * 2, none⟩ = some (.string pk) ∧ W.cell? ⟨g, hh * 2 + 1, none⟩ = some (.string pv) ∧ W.cell? ⟨g, a * 2, none⟩ = some (.string xk) ∧ W.cell? ⟨g, a * 2 + 1, none⟩ = some (.string xv)) (first | (with_reducible exact hS0) | (with_reducible exact hS1.out _ HT2.out)) (first | (go_at_call 59; (with_reducible refine (C28.out pk pv xk xv _).mono ?_); rintro e w2 ⟨rfl, ht⟩; have HT2 : Hid (Turn No wr w2) := Lib.hid (((Turn.refl No wr).drewN _).trans ht); clear ht))
        clear hS0 hS1 x0 x1 x2 x3 HC
        go_wp2_with fail
        exact ⟨⟨ii, hh, by omega, by omega, by omega, rfl, by go_num, Lib.hid ⟨HN.out, HU.out.2.2.trans HT2.out⟩⟩, by simp [RowKit.intOf]; omega⟩
    · obtain rfl : ii = jj := by omega
      obtain ⟨c, hce⟩ : ∃ c, ii - m = c := ⟨_, rfl⟩
      have hS := HP.out.1
      rw [hce] at hS
      have hins := ins_right HX.out.2 hS.le hS.lo hS.hi
      have HI := Lib.hid hins
      have hcb : c ≤ B.length := hS.le
      have H2 : Hid (Mv w wr g cap P x B R 0) := Lib.hid ⟨by simpa using HX.out.1.no HP.out.2, HP.out.2.mono fun _ _ h => h.elim⟩
      have q2 : (ii : Int) - 1 = (a : Int) + (c : Int) := by have := HQ.out; omega
      have HV := Lib.hid hce
      have b5 : a + c < n := by have := HQ.out; omega
      clear HP hins hS hce
      obtain ⟨wx, hwx⟩ : ∃ x, x = wr := ⟨_, rfl⟩
      subst hwx
      go_wp2_with fail
      go_loopw [13] (fun k wr => ∃ t : Nat, t ≤ c ∧ k = .int .i64 ((a : Int) + (t : Int)) ∧ Hid (Mv w wr g cap P x B R t)) (fun k _ => a + c - (RowKit.intOf k).toNat)
      case atStart => exact ⟨0, Nat.zero_le _, by simp, H2⟩
      case round =>
        obtain ⟨t, ht, rfl, HM⟩ := hrel
        clear H2
        by_cases htc : t < c
        · obtain ⟨y, hy⟩ : ∃ y, B[t]? = some y := ⟨B[t]'(by omega), List.getElem?_eq_getElem (by omega)⟩
          obtain ⟨k, hk⟩ : ∃ k, a + t = k := ⟨_, rfl⟩
          obtain ⟨k1, hk1⟩ : ∃ k1, k + 1 = k1 := ⟨_, rfl⟩
          have hS := HM.out.right hy (k := k) (k1 := k1) (by have := HQ.out; omega) hk1.symm
          have HS := Lib.hid hS
          obtain ⟨xk, xv⟩ := x
          obtain ⟨yk, yv⟩ := y
          have x0 := HS.out.xi.1
          have x1 := HS.out.xi.2
          have x2 := HS.out.yj.1
          have x3 := HS.out.yj.2
          simp only at x0 x1 x2 x3
          have e0 := HS.out.th (k1 * 2)
          have e1 := HS.out.th (k1 * 2 + 1)
          have e2 := HS.out.th (k * 2)
          have e3 := HS.out.th (k * 2 + 1)
          have d0 : ¬ k * 2 = k1 * 2 := by omega
          have d1 : ¬ k * 2 + 1 = k1 * 2 := by omega
          have d2 : ¬ k * 2 = k1 * 2 + 1 := by omega
          have d3 : ¬ k1 * 2 = k * 2 := by omega
          have d4 : ¬ k1 * 2 + 1 = k * 2 := by omega
          have d5 : ¬ k1 * 2 = k * 2 + 1 := by omega
          have q5 : (a : Int) + (t : Int) = (k : Int) := by omega
          have q6 : (k : Int) + 1 = (k1 : Int) := by omega
          have q7 : (k : Int) < (a : Int) + (c : Int) := by omega
          have b6 : k1 < n := by omega
          have HK := Lib.hid (And.intro hk hk1)
          have HT := Lib.hid HM.out.tu
          clear hy hS hk hk1 HM
          rw [q5]
          go_wp2_with fail
          go_region
          all_goals go_wp2_with fail
          all_goals exact ⟨⟨t + 1, by omega, by have := HK.out; go_num, Lib.hid ⟨(by first | exact HS.out.one | exact HS.out.two), HT.out.trans (HS.out.tu _ _ _ _ _ _ _ _)⟩⟩, by have := HK.out; simp [RowKit.intOf]; omega⟩
        · obtain rfl : t = c := by omega
          have HF : Hid (Srd wr g cap P ([x] ++ B) R) := Lib.hid ⟨_, HM.out.ex, HI.out.1, HI.out.2⟩
          go_wp2_with fail
          (try simp only [Exit.inBlock, Exit.then])
          refine bodyPost_ret (results_none rfl _ _ _) rfl ?_
          exact ⟨rfl, HF.out, HM.out.tu⟩
end Go.Proofs.Ytllppkfeiifklaa
namespace Go.Proofs.Ytllppkfeiifklaa
open Go.RowKit Go.Lib
set_option linter.unusedVariables false
set_option maxRecDepth 20000
set_option linter.unusedSimpArgs false

set_option maxRecDepth 100000 in
set_option maxHeartbeats 4000000 in
theorem sym_right {w : World} {g cap : Nat} (P A R : List Pr) (x : Pr) (h : Hx w g cap (P ++ A ++ [x] ++ R)) (hA : Sd A) (h1 : A.length ≠ 1) (hc : cap ≤ maxLen) {n a m b : Nat} (hl : n ≤ 100000) (hn : n = (P ++ A ++ [x] ++ R).length) (ha : a = P.length) (hm : m = a + A.length) (hb : b = m + 1) :
    Calls Try.prog 105 #[.slice (some ⟨g, 0, none⟩) n cap, .int .i64 (a : Int), .int .i64 (m : Int), .int .i64 (b : Int), .func (.func 59) #[] #[]] w fun e w' => e = .returned (.tuple #[]) ∧ Srd w' g cap P (A ++ [x]) R ∧ Turn (fun k => k = g) w w' := by
  have hfit := h.fits
  rw [← hn] at hfit
  simp only [List.length_append, List.length_cons, List.length_nil] at hn
  obtain ⟨la, hla⟩ : ∃ la, A.length = la := ⟨_, rfl⟩
  have hmn : m < n := by omega
  have ham : a ≤ m := by omega
  have q1 : (m : Int) - (a : Int) = (la : Int) := by omega
  have q1a : ((la : Int) == 1) = false := by simpa using (by omega : ¬ (la : Int) = 1)
  have q1b : (b : Int) - (m : Int) = 1 := by omega
  have qa : (0 : Int) ≤ (m : Int) := by omega
  have qb : (m : Int) < (n : Int) := by omega
  have HQ := Lib.hid (And.intro ha (And.intro hm (And.intro hb hla)))
  have HX := Lib.hid (And.intro h hA)
  have C28 := Lib.hid cmp28_any
  have H0 : Hid (Sr (fun p => ¬ kl x.k p.k) A (a - a) (m - a) ∧ Turn No w w) := Lib.hid ⟨by rw [Nat.sub_self, show m - a = A.length by omega]; exact Sr.start _ _, Turn.refl _ _⟩
  unfold maxLen at hc
  have hla2 : la ≤ n := by omega
  clear h hA hn ha hm hb hla h1
  go_enter Try.func105, Try.ntmps105
  go_wp2_with fail
  go_loopw [14, 15] (fun i j wr => ∃ ii jj : Nat, a ≤ ii ∧ ii ≤ jj ∧ jj ≤ m ∧ i = .int .i64 (ii : Int) ∧ j = .int .i64 (jj : Int) ∧ Hid (Sr (fun p => ¬ kl x.k p.k) A (ii - a) (jj - a) ∧ Turn No w wr)) (fun i j _ => (RowKit.intOf j).toNat - (RowKit.intOf i).toNat)
  case atStart => exact ⟨a, m, Nat.le_refl _, ham, Nat.le_refl _, rfl, rfl, H0⟩
  case round =>
    obtain ⟨ii, jj, h1, h2, h3, rfl, rfl, HP⟩ := hrel
    clear H0
    by_cases hlt : ii < jj
    · obtain ⟨hh, hhe⟩ : ∃ hh, (ii + jj) / 2 = hh := ⟨_, rfl⟩
      have b1 : ii ≤ hh := by omega
      have b2 : hh < jj := by omega
      have q2 : ((ii : Int) + (jj : Int)) / 2 = (hh : Int) := by omega
      have q3 : (0 : Int) ≤ (hh : Int) := by omega
      have q4 : (hh : Int) < (n : Int) := by omega
      obtain ⟨p, hp⟩ : ∃ p, A[hh - a]? = some p := ⟨A[hh - a]'(by have := HQ.out; omega), List.getElem?_eq_getElem (by have := HQ.out; omega)⟩
      have hpl := at_a (P := P) (B := [x]) (R := R) hp
      rw [show P.length + (hh - a) = hh by have := HQ.out; omega] at hpl
      have hxl := at_b (P := P) (A := A) (B := [x]) (R := R) (i := 0) rfl
      rw [show P.length + A.length + 0 = m by have := HQ.out; omega] at hxl
      have HU := Lib.hid (And.intro (fun hf => HP.out.1.up hp hf) (And.intro (fun hf => HP.out.1.down hp hf) HP.out.2))
      obtain ⟨pk, pv⟩ := p
      obtain ⟨xk, xv⟩ := x
      have HC : Hid (∀ w2, Turn No wr w2 → w2.cell? ⟨g, m * 2, none⟩ = some (.string xk) ∧ w2.cell? ⟨g, m * 2 + 1, none⟩ = some (.string xv) ∧ w2.cell? ⟨g, hh * 2, none⟩ = some (.string pk) ∧ w2.cell? ⟨g, hh * 2 + 1, none⟩ = some (.string pv)) := Lib.hid fun w2 t => ⟨(((HX.out.1.no HP.out.2).no t).cells hxl).1, (((HX.out.1.no HP.out.2).no t).cells hxl).2, (((HX.out.1.no HP.out.2).no t).cells hpl).1, (((HX.out.1.no HP.out.2).no t).cells hpl).2⟩
      have x0 := (HC.out wr (Turn.refl _ _)).1
      have x1 := (HC.out wr (Turn.refl _ _)).2.1
      have x2 := (HC.out wr (Turn.refl _ _)).2.2.1
      have x3 := (HC.out wr (Turn.refl _ _)).2.2.2
      have HE := Lib.hid hhe
      clear hhe HP hp hpl hxl
      by_cases hk : kcmp xk pk < 0
      · have hkd : decide (kcmp xk pk < 0) = true := decide_eq_true hk
        have HN := Lib.hid (HU.out.2.1 (fun h => h hk))
        clear hk
        go_wp2_with fail
        have hS0 : wr.drew.cell? ⟨g, m * 2, none⟩ = some (.string xk) ∧ wr.drew.cell? ⟨g, m * 2 + 1, none⟩ = some (.string xv) ∧ wr.drew.cell? ⟨g, hh * 2, none⟩ = some (.string pk) ∧ wr.drew.cell? ⟨g, hh * 2 + 1, none⟩ = some (.string pv) := ⟨by simpa using x0, by simpa using x1, by simpa using x2, by simpa using x3⟩
        have hS1 : Hid (∀ w2, Turn No wr w2 → w2.cell? ⟨g, m * 2, none⟩ = some (.string xk) ∧ w2.cell? ⟨g, m * 2 + 1, none⟩ = some (.string xv) ∧ w2.cell? ⟨g, hh * 2, none⟩ = some (.string pk) ∧ w2.cell? ⟨g, hh * 2 + 1, none⟩ = some (.string pv)) := Lib.hid fun w2 t => HC.out w2 t
        go_region_held3 (fun W => W.cell? ⟨g, m * 2, none⟩ = some (.string xk) ∧ W.cell? ⟨g, m * 2 + 1, none⟩ = some (.string xv) ∧ W.cell? ⟨g, hh * 2, none⟩ = some (.string pk) ∧ W.cell? ⟨g, hh * 2 + 1, none⟩ = some (.string pv)) (first | (with_reducible exact hS0) | (with_reducible exact hS1.out _ HT2.out)) (first | (go_at_call 59; (with_reducible refine (C28.out xk xv pk pv _).mono ?_); rintro e w2 ⟨rfl, ht⟩; have HT2 : Hid (Turn No wr w2) := Lib.hid (((Turn.refl No wr).drewN _).trans ht); clear ht))
        clear hS0 hS1 x0 x1 x2 x3 HC
        go_wp2_with fail
        exact ⟨⟨ii, hh, by omega, by omega, by omega, rfl, by go_num, Lib.hid ⟨HN.out, HU.out.2.2.trans HT2.out⟩⟩, by simp [RowKit.intOf]; omega⟩
      · have hkd : decide (kcmp xk pk < 0) = false := decide_eq_false hk
        have HN := Lib.hid (HU.out.1 hk)
        clear hk
        go_wp2_with fail
        have hS0 : wr.drew.cell? ⟨g, m * 2, none⟩ = some (.string xk) ∧ wr.drew.cell? ⟨g, m * 2 + 1, none⟩ = some (.string xv) ∧ wr.drew.cell? ⟨g, hh * 2, none⟩ = some (.string pk) ∧ wr.drew.cell? ⟨g, hh * 2 + 1, none⟩ = some (.string pv) := ⟨by simpa using x0, by simpa using x1, by simpa using x2, by simpa using x3⟩
        have hS1 : Hid (∀ w2, Turn No wr w2 → w2.cell? ⟨g, m * 2, none⟩ = some (.string xk) ∧ w2.cell? ⟨g, m * 2 + 1, none⟩ = some (.string xv) ∧ w2.cell? ⟨g, hh * 2, none⟩ = some (.string pk) ∧ w2.cell? ⟨g, hh * 2 + 1, none⟩ = some (.string pv)) := Lib.hid fun w2 t => HC.out w2 t
        go_region_held3 (fun W => W.cell? ⟨g, m * 2, none⟩ = some (.string xk) ∧ W.cell? ⟨g, m * 2 + 1, none⟩ = some (.string xv) ∧ W.cell? ⟨g, hh * 2, none⟩ = some (.string pk) ∧ W.cell? ⟨g, hh * 2 + 1, none⟩ = some (.string pv)) (first | (with_reducible exact hS0) | (with_reducible exact hS1.out _ HT2.out)) (first | (go_at_call 59; (with_reducible refine (C28.out xk xv pk pv _).mono ?_); rintro e w2 ⟨rfl, ht⟩; have HT2 : Hid (Turn No wr w2) := Lib.hid (((Turn.refl No wr).drewN _).trans ht); clear ht))
        clear hS0 hS1 x0 x1 x2 x3 HC
        go_wp2_with fail
        exact ⟨⟨hh + 1, jj, by omega, by omega, h3, by go_num, rfl, Lib.hid ⟨by rw [show hh + 1 - a = hh - a + 1 by omega]; exact HN.out, HU.out.2.2.trans HT2.out⟩⟩, by simp [RowKit.intOf]; omega⟩
    · obtain rfl : ii = jj := by omega
      obtain ⟨c, hce⟩ : ∃ c, ii - a = c := ⟨_, rfl⟩
      have hS := HP.out.1
      rw [hce] at hS
      have hins := ins_left HX.out.2 hS.le hS.lo (by rcases hS.hi with e | ⟨p, hp, hk⟩; exact .inl e; exact .inr ⟨p, hp, Classical.not_not.1 hk⟩)
      have HI := Lib.hid hins
      have hcb : c ≤ la := by have := hS.le; have := HQ.out; omega
      have H2 : Hid (Mv w wr g cap P x A R la) := Lib.hid ⟨by
        have h1 := HX.out.1.no HP.out.2
        have e := HQ.out.2.2.2
        rw [← e, List.take_length, List.drop_length]
        simpa using h1, HP.out.2.mono fun _ _ h => h.elim⟩
      have q2 : (ii : Int) = (a : Int) + (c : Int) := by have := HQ.out; omega
      have q2b : (m : Int) = (a : Int) + (la : Int) := by have := HQ.out; omega
      have b5 : a + la < n := by have := HQ.out; omega
      have HV := Lib.hid (And.intro hce (And.intro q2 q2b))
      clear HP hins hS hce q2 q2b
      obtain ⟨wx, hwx⟩ : ∃ x, x = wr := ⟨_, rfl⟩
      subst hwx
      go_wp2_with fail
      go_loopw [17] (fun k wr => ∃ t : Nat, c ≤ t ∧ t ≤ la ∧ k = .int .i64 ((a : Int) + (t : Int)) ∧ Hid (Mv w wr g cap P x A R t)) (fun k _ => (RowKit.intOf k).toNat)
      case atStart => exact ⟨la, hcb, Nat.le_refl _, by rw [← HV.out.2.2], H2⟩
      case round =>
        obtain ⟨t, ht, htl, rfl, HM⟩ := hrel
        clear H2
        by_cases htc : c < t
        · obtain ⟨t0, ht0⟩ : ∃ t0, t = t0 + 1 := ⟨t - 1, by omega⟩
          obtain ⟨y, hy⟩ : ∃ y, A[t0]? = some y := ⟨A[t0]'(by have := HQ.out; omega), List.getElem?_eq_getElem (by have := HQ.out; omega)⟩
          obtain ⟨k, hk⟩ : ∃ k, a + t0 = k := ⟨_, rfl⟩
          obtain ⟨k1, hk1⟩ : ∃ k1, k + 1 = k1 := ⟨_, rfl⟩
          have hM := HM.out
          rw [ht0] at hM
          have hS := hM.left hy (k := k) (k1 := k1) (by have := HQ.out; omega) hk1.symm
          have HS := Lib.hid hS
          obtain ⟨xk, xv⟩ := x
          obtain ⟨yk, yv⟩ := y
          have x0 := HS.out.xi.1
          have x1 := HS.out.xi.2
          have x2 := HS.out.yj.1
          have x3 := HS.out.yj.2
          simp only at x0 x1 x2 x3
          have e0 := HS.out.th (k1 * 2)
          have e1 := HS.out.th (k1 * 2 + 1)
          have e2 := HS.out.th (k * 2)
          have e3 := HS.out.th (k * 2 + 1)
          have d0 : ¬ k * 2 = k1 * 2 := by omega
          have d1 : ¬ k * 2 + 1 = k1 * 2 := by omega
          have d2 : ¬ k * 2 = k1 * 2 + 1 := by omega
          have d3 : ¬ k1 * 2 = k * 2 := by omega
          have d4 : ¬ k1 * 2 + 1 = k * 2 := by omega
          have d5 : ¬ k1 * 2 = k * 2 + 1 := by omega
          have q5 : (a : Int) + (t : Int) = (k1 : Int) := by omega
          have q6 : (k1 : Int) - 1 = (k : Int) := by omega
          have q7 : (ii : Int) < (k1 : Int) := by have := HV.out; omega
          have b6 : k1 < n := by omega
          have b7 : k ≤ k1 := by omega
          have HK := Lib.hid (And.intro hk (And.intro hk1 ht0))
          have HT := Lib.hid HM.out.tu
          clear hy hS hk hk1 HM hM ht0
          rw [q5]
          go_wp2_with fail
          go_region
          all_goals go_wp2_with fail
          all_goals exact ⟨⟨t0, by have := HK.out; omega, by have := HK.out; omega, by have := HK.out; go_num, Lib.hid ⟨(by first | exact HS.out.one | exact HS.out.two), HT.out.trans (HS.out.tu _ _ _ _ _ _ _ _)⟩⟩, by have := HK.out; simp [RowKit.intOf]; omega⟩
        · obtain rfl : t = c := by omega
          have HF : Hid (Srd wr g cap P (A ++ [x]) R) := Lib.hid ⟨_, HM.out.ex, HI.out.1, HI.out.2⟩
          have q7 : ¬ (ii : Int) < (a : Int) + (t : Int) := by have := HV.out; omega
          go_wp2_with fail
          (try simp only [Exit.inBlock, Exit.then])
          refine bodyPost_ret (results_none rfl _ _ _) rfl ?_
          exact ⟨rfl, HF.out, HM.out.tu⟩
end Go.Proofs.Ytllppkfeiifklaa
