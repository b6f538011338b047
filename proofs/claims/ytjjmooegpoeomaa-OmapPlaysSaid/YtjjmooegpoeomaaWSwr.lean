/-
  Two pairs of a row change places; two parts of a row, as long as each other, change places.
-/
import Derived.Test.YtjjmooegpoeomaaWDel
import Derived.Test.YtjjmooegpoeomaaSrt
import Derived.BigRegion
namespace Go.Proofs.Ytjjmooegpoeomaa
open Go.RowKit Go.Lib
set_option linter.unusedVariables false
set_option linter.unusedSimpArgs false

theorem pcs_set2 : ∀ (l : List Pr) (i : Nat) (q : Pr), pcs (l.set i q) = ((pcs l).set (i * 2) (.string q.k)).set (i * 2 + 1) (.string q.v)
  | [], i, q => by simp [pcs]
  | p :: t, 0, q => by simp [pcs, Pr.cs]
  | p :: t, i + 1, q => by
    have ih := pcs_set2 t i q
    have e : pcs (p :: t) = .string p.k :: .string p.v :: pcs t := rfl
    have e2 : pcs (p :: t.set i q) = .string p.k :: .string p.v :: pcs (t.set i q) := rfl
    rw [List.set_cons_succ, e, e2, ih, show (i + 1) * 2 = i * 2 + 1 + 1 by omega]
    rfl
/-- A row of pairs at the head of a block. -/
def Hx (w : World) (g cap : Nat) (l : List Pr) : Prop := ∃ cur, Hd w g cap cur l
theorem Hx.set {w : World} {g cap : Nat} {l : List Pr} (h : Hx w g cap l) (i : Nat) (q : Pr) : Hx ((w.setCell ⟨g, i * 2, none⟩ (.string q.k)).setCell ⟨g, i * 2 + 1, none⟩ (.string q.v)) g cap (l.set i q) := by
  obtain ⟨cur, hb, hs, hf, hh⟩ := h
  refine ⟨(cur.set (i * 2) (.string q.k)).set (i * 2 + 1) (.string q.v), ?_, by simpa using hs, by simpa using hf, ?_⟩
  · have := (At.set hb (i * 2) (.string q.k)).set (i * 2 + 1) (.string q.v)
    simpa [Blk] using this
  · rw [List.length_set, List.take_set, List.take_set, hh, pcs_set2]
theorem Hx.turn {X : Nat → Prop} {w w' : World} {g cap : Nat} {l : List Pr} (h : Hx w g cap l) (t : Turn X w w') (hg : ¬ X g) : Hx w' g cap l := by
  obtain ⟨cur, hb, hs, hf, hh⟩ := h
  exact ⟨cur, At.turn hb t hg, hs, hf, hh⟩
theorem Hx.no {w w' : World} {g cap : Nat} {l : List Pr} (h : Hx w g cap l) (t : Turn No w w') : Hx w' g cap l := h.turn t fun h => h
theorem Hx.cells {w : World} {g cap : Nat} {l : List Pr} (h : Hx w g cap l) {i : Nat} {p : Pr} (hp : l[i]? = some p) :
    w.cell? ⟨g, i * 2, none⟩ = some (.string p.k) ∧ w.cell? ⟨g, i * 2 + 1, none⟩ = some (.string p.v) := by
  obtain ⟨cur, hd⟩ := h
  exact ⟨by simpa using hd.cell (j := i * 2 + 0) (u := .string p.k) (by rw [pcs_at hp 0 (by decide)]; rfl), by simpa using hd.cell (j := i * 2 + 1) (u := .string p.v) (by rw [pcs_at hp 1 (by decide)]; rfl)⟩
theorem Hx.thawed {w : World} {g cap : Nat} {l : List Pr} (h : Hx w g cap l) (i : Nat) : w.frozen? ⟨g, i, none⟩ = false := by
  obtain ⟨cur, hd⟩ := h
  exact At.thawed hd.blk i
theorem Hx.lt {w : World} {g cap : Nat} {l : List Pr} (h : Hx w g cap l) : g < w.heap.size := by
  obtain ⟨cur, hd⟩ := h
  exact At.lt hd.blk
theorem Hx.fits {w : World} {g cap : Nat} {l : List Pr} (h : Hx w g cap l) : l.length ≤ cap := by
  obtain ⟨cur, hd⟩ := h
  exact hd.fits
theorem swap_list (P M R : List Pr) (x y : Pr) {i j : Nat} (hi : i = P.length) (hj : j = P.length + 1 + M.length) :
    (P ++ x :: (M ++ y :: R))[i]? = some x ∧ (P ++ x :: (M ++ y :: R))[j]? = some y ∧ ((P ++ x :: (M ++ y :: R)).set i y).set j x = P ++ y :: (M ++ x :: R) ∧ ((P ++ x :: (M ++ y :: R)).set j x).set i y = P ++ y :: (M ++ x :: R) := by
  subst hi hj
  have e2 : P.length + 1 + M.length - P.length = M.length + 1 := by omega
  have a1 : ((P ++ x :: (M ++ y :: R)).set P.length y).set (P.length + 1 + M.length) x = P ++ y :: (M ++ x :: R) := by
    rw [List.set_append_right _ _ (Nat.le_refl _), Nat.sub_self, List.set_cons_zero, List.set_append_right _ _ (by omega), e2, List.set_cons_succ, List.set_append_right _ _ (Nat.le_refl _), Nat.sub_self, List.set_cons_zero]
  refine ⟨by simp, ?_, a1, ?_⟩
  · rw [List.getElem?_append_right (by omega), e2, List.getElem?_cons_succ, List.getElem?_append_right (Nat.le_refl _), Nat.sub_self]
    rfl
  · rw [List.set_comm _ _ (by omega)]
    exact a1
theorem turn4 (w : World) (g a b c d : Nat) (p q r s : Value) : Turn (fun k => k = g) w ((((w.setCell ⟨g, a, none⟩ p).setCell ⟨g, b, none⟩ q).setCell ⟨g, c, none⟩ r).setCell ⟨g, d, none⟩ s) :=
  (((Turn.set1 w g a p).trans (Turn.set1 _ g b q)).trans (Turn.set1 _ g c r)).trans (Turn.set1 _ g d s)
/-- What is read of the two, and what there is behind the stores. -/
structure Sw (w : World) (g cap i j : Nat) (x y : Pr) (L' : List Pr) : Prop where
  xi : w.cell? ⟨g, i * 2, none⟩ = some (.string x.k) ∧ w.cell? ⟨g, i * 2 + 1, none⟩ = some (.string x.v)
  yj : w.cell? ⟨g, j * 2, none⟩ = some (.string y.k) ∧ w.cell? ⟨g, j * 2 + 1, none⟩ = some (.string y.v)
  th : ∀ q, w.frozen? ⟨g, q, none⟩ = false
  one : Hx ((((w.setCell ⟨g, i * 2, none⟩ (.string y.k)).setCell ⟨g, i * 2 + 1, none⟩ (.string y.v)).setCell ⟨g, j * 2, none⟩ (.string x.k)).setCell ⟨g, j * 2 + 1, none⟩ (.string x.v)).drew g cap L'
  two : Hx ((((w.setCell ⟨g, j * 2, none⟩ (.string x.k)).setCell ⟨g, j * 2 + 1, none⟩ (.string x.v)).setCell ⟨g, i * 2, none⟩ (.string y.k)).setCell ⟨g, i * 2 + 1, none⟩ (.string y.v)).drew g cap L'
  tu : ∀ a b c d p q r s, Turn (fun k => k = g) w ((((w.setCell ⟨g, a, none⟩ p).setCell ⟨g, b, none⟩ q).setCell ⟨g, c, none⟩ r).setCell ⟨g, d, none⟩ s).drew
theorem Hx.sw {w : World} {g cap : Nat} {P M R : List Pr} {x y : Pr} (h : Hx w g cap (P ++ x :: (M ++ y :: R))) {i j : Nat} (hi : i = P.length) (hj : j = P.length + 1 + M.length) : Sw w g cap i j x y (P ++ y :: (M ++ x :: R)) := by
  obtain ⟨h1, h2, h3, h4⟩ := swap_list P M R x y hi hj
  refine ⟨h.cells h1, h.cells h2, h.thawed, ?_, ?_, fun a b c d p q r s => (turn4 w g a b c d p q r s).drew⟩
  · rw [← h3]; exact ((h.set i y).set j x).no (Turn.refl No _).drew
  · rw [← h4]; exact ((h.set j x).set i y).no (Turn.refl No _).drew

/-- swapRangeCmpFunc -/
theorem swr_step (P X M Y R : List Pr) {kk : Nat} {x y : Pr} (hx : X[kk]? = some x) (hy : Y[kk]? = some y) :
    P ++ (Y.take kk ++ X.drop kk) ++ M ++ (X.take kk ++ Y.drop kk) ++ R = (P ++ Y.take kk) ++ x :: ((X.drop (kk + 1) ++ M ++ X.take kk) ++ y :: (Y.drop (kk + 1) ++ R)) ∧
    (P ++ Y.take kk) ++ y :: ((X.drop (kk + 1) ++ M ++ X.take kk) ++ x :: (Y.drop (kk + 1) ++ R)) = P ++ (Y.take (kk + 1) ++ X.drop (kk + 1)) ++ M ++ (X.take (kk + 1) ++ Y.drop (kk + 1)) ++ R := by
  constructor
  · rw [drop_cons hx, drop_cons hy]
    simp
  · rw [List.take_add_one, List.take_add_one, hx, hy]
    simp

set_option maxHeartbeats 2000000 in
theorem swr_any {w : World} {g cap : Nat} (P X M Y R : List Pr) (h : Hx w g cap (P ++ X ++ M ++ Y ++ R)) (hXY : X.length = Y.length) (hc : cap ≤ maxLen) {n a b m : Nat} (hn : n = (P ++ X ++ M ++ Y ++ R).length) (ha : a = P.length) (hb : b = P.length + X.length + M.length) (hm : m = X.length) (f : Value) :
    Calls Try.prog 64 #[.slice (some ⟨g, 0, none⟩) n cap, .int .i64 (a : Int), .int .i64 (b : Int), .int .i64 (m : Int), f] w fun e w' => e = .returned (.tuple #[]) ∧ Hx w' g cap (P ++ Y ++ M ++ X ++ R) ∧ Turn (fun k => k = g) w w' := by
  have hfit := h.fits
  rw [← hn] at hfit
  simp only [List.length_append] at hn
  unfold maxLen at hc
  have H0 : Hid (Hx w g cap (P ++ (Y.take 0 ++ X.drop 0) ++ M ++ (X.take 0 ++ Y.drop 0) ++ R)) := Lib.hid (by simpa using h)
  have hmy : m = Y.length := by omega
  have HQ := Lib.hid (And.intro hXY (And.intro ha (And.intro hb hm)))
  clear h hXY
  have hbn : b + m ≤ n := by omega
  have hab : a + m ≤ b := by omega
  clear hn ha hb hmy hm
  go_enter Try.func64, Try.ntmps64
  go_wp2_with fail
  go_loopw [10] (fun i wr => ∃ kk : Nat, kk ≤ m ∧ i = .int .i64 (kk : Int) ∧ Hid (Hx wr g cap (P ++ (Y.take kk ++ X.drop kk) ++ M ++ (X.take kk ++ Y.drop kk) ++ R) ∧ Turn (fun k => k = g) w wr)) (fun i _ => m - (RowKit.intOf i).toNat)
  case atStart => exact ⟨0, Nat.zero_le _, rfl, Lib.hid ⟨H0.out, Turn.refl _ _⟩⟩
  case round =>
    obtain ⟨kk, hm, rfl, HP⟩ := hrel
    clear H0
    by_cases hlt : kk < m
    · have hkx : kk < X.length := by have := HQ.out; omega
      have hky : kk < Y.length := by have := HQ.out; omega
      obtain ⟨x, hx⟩ : ∃ x, X[kk]? = some x := ⟨X[kk], List.getElem?_eq_getElem hkx⟩
      obtain ⟨y, hy⟩ : ∃ y, Y[kk]? = some y := ⟨Y[kk], List.getElem?_eq_getElem hky⟩
      have hs := swr_step P X M Y R hx hy
      have h1 := HP.out.1
      rw [hs.1] at h1
      have hS := h1.sw (i := a + kk) (j := b + kk) (by have := HQ.out; simp; omega) (by have := HQ.out; simp; omega)
      rw [hs.2] at hS
      have HS := Lib.hid hS
      obtain ⟨xk, xv⟩ := x
      obtain ⟨yk, yv⟩ := y
      have x0 := HS.out.xi.1
      have x1 := HS.out.xi.2
      have y0 := HS.out.yj.1
      have y1 := HS.out.yj.2
      have e0 := HS.out.th ((a + kk) * 2)
      have e1 := HS.out.th ((a + kk) * 2 + 1)
      have e2 := HS.out.th ((b + kk) * 2)
      have e3 := HS.out.th ((b + kk) * 2 + 1)
      have d0 : ¬ (a + kk) * 2 = (b + kk) * 2 := by omega
      have d1 : ¬ (a + kk) * 2 + 1 = (b + kk) * 2 := by omega
      have d2 : ¬ (a + kk) * 2 = (b + kk) * 2 + 1 := by omega
      have d3 : ¬ (b + kk) * 2 = (a + kk) * 2 := by omega
      have d4 : ¬ (b + kk) * 2 + 1 = (a + kk) * 2 := by omega
      have d5 : ¬ (b + kk) * 2 = (a + kk) * 2 + 1 := by omega
      have HT := Lib.hid (HP.out.2)
      simp only at x0 x1 y0 y1
      clear hx hy hs h1 hS HP hkx hky
      go_wp2_with fail
      go_region
      all_goals go_wp2_with fail
      all_goals exact ⟨⟨kk + 1, by omega, by go_num, Lib.hid ⟨HS.out.one, HT.out.trans (HS.out.tu _ _ _ _ _ _ _ _)⟩⟩, by simp [RowKit.intOf]; omega⟩
    · obtain rfl : kk = m := by omega
      have hF : Hid (Hx wr g cap (P ++ Y ++ M ++ X ++ R)) := Lib.hid (by
        have h1 := HP.out.1
        have hq := HQ.out
        rw [List.take_of_length_le (by omega), List.take_of_length_le (by omega), List.drop_eq_nil_of_le (by omega), List.drop_eq_nil_of_le (by omega)] at h1
        simpa using h1)
      go_wp2_with fail
      go_end0
      exact ⟨rfl, hF.out, HP.out.2⟩
end Go.Proofs.Ytjjmooegpoeomaa
