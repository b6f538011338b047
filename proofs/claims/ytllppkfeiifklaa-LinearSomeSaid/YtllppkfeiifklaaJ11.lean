/-
  slices.Clone and slices.Reverse of a row of pairs.
  slices.CompactFunc: of keys that are alike the first one is left.
-/
import Derived.Test.YtllppkfeiifklaaJ10
import Derived.Test.YtllppkfeiifklaaJ8
import Derived.Laws.Append
namespace Go.Proofs.Ytllppkfeiifklaa
open Go.RowKit Go.Lib
set_option linter.unusedVariables false
set_option maxRecDepth 20000
set_option linter.unusedSimpArgs false

/-- A row that is half turned round. -/
structure Rv (w0 wr : World) (g cap : Nat) (l : List Pr) (i : Nat) : Prop where
  ex : ∃ X M Y, l = X ++ M ++ Y ∧ X.length = i ∧ Y.length = i ∧ Hx wr g cap (Y.reverse ++ M ++ X.reverse)
  tu : Turn (fun k => k = g) w0 wr
section
variable {w0 wr : World} {g cap : Nat} {l : List Pr} {i : Nat}
theorem Rv.two (h : Rv w0 wr g cap l i) {j : Nat} (hj : j + 1 + i = l.length) (hij : i < j) : ∃ xk xv yk yv, Sw wr g cap i j ⟨xk, xv⟩ ⟨yk, yv⟩ (((l.drop (j)).reverse) ++ (l.drop (i + 1)).take (j - (i + 1)) ++ (l.take (i + 1)).reverse) ∧
    ∀ W, Hx W g cap (((l.drop (j)).reverse) ++ (l.drop (i + 1)).take (j - (i + 1)) ++ (l.take (i + 1)).reverse) → Turn (fun k => k = g) w0 W → Rv w0 W g cap l (i + 1) := by
  obtain ⟨X, M, Y, hl, hX, hY, hx⟩ := h.ex
  have hlen := congrArg List.length hl
  simp only [List.length_append] at hlen
  have hM : j + 1 = i + M.length := by omega
  obtain ⟨x, M1, rfl⟩ : ∃ x M1, M = x :: M1 := by
    cases M with
    | nil => simp at hM; omega
    | cons x M1 => exact ⟨x, M1, rfl⟩
  simp only [List.length_cons] at hM
  rcases List.eq_nil_or_concat M1 with rfl | ⟨M', y, rfl⟩
  · simp at hM; omega
  · rw [List.concat_eq_append] at hl hx hM
    simp only [List.length_append, List.length_cons, List.length_nil] at hM
    have e1 : l.drop j = y :: Y := by
      have : l = (X ++ x :: M') ++ (y :: Y) := by rw [hl]; simp
      rw [this, List.drop_left' (by simp; omega)]
    have e2 : l.take (i + 1) = X ++ [x] := by
      have : l = (X ++ [x]) ++ (M' ++ y :: Y) := by rw [hl]; simp
      rw [this, List.take_left' (by simp; omega)]
    have e3 : (l.drop (i + 1)).take (j - (i + 1)) = M' := by
      have : l = (X ++ [x]) ++ (M' ++ y :: Y) := by rw [hl]; simp
      rw [this, List.drop_left' (by simp; omega), List.take_left' (by omega)]
    have e4 : Y.reverse ++ x :: (M' ++ [y]) ++ X.reverse = Y.reverse ++ x :: (M' ++ y :: X.reverse) := by simp
    rw [e4] at hx
    have hS := hx.sw (i := i) (j := j) (by simp; omega) (by simp; omega)
    have e5 : ((l.drop j).reverse) ++ (l.drop (i + 1)).take (j - (i + 1)) ++ (l.take (i + 1)).reverse = Y.reverse ++ y :: (M' ++ x :: X.reverse) := by rw [e1, e2, e3]; simp
    refine ⟨x.k, x.v, y.k, y.v, ?_, fun W hW t => ⟨⟨X ++ [x], M', y :: Y, ?_, by simp; omega, by simp; omega, ?_⟩, t⟩⟩
    · rw [e5]; exact hS
    · rw [hl]; simp
    · rw [e5] at hW; simpa using hW
theorem Rv.last (h : Rv w0 wr g cap l i) (hi : l.length ≤ i + i + 1) : Hx wr g cap l.reverse := by
  obtain ⟨X, M, Y, hl, hX, hY, hx⟩ := h.ex
  have hlen := congrArg List.length hl
  simp only [List.length_append] at hlen
  have : M.reverse = M := by
    match M with
    | [] => rfl
    | [x] => rfl
    | x :: y :: t => simp at hlen; omega
  rw [hl, List.reverse_append, List.reverse_append, this]
  simpa using hx
end

set_option maxHeartbeats 2000000 in
theorem rev26_any {w : World} {g cap : Nat} (l : List Pr) (h : Hx w g cap l) {n : Nat} (hl : n ≤ 100000) (hn : n = l.length) :
    Calls Try.prog 57 #[.slice (some ⟨g, 0, none⟩) n cap] w fun e w' => e = .returned (.tuple #[]) ∧ Hx w' g cap l.reverse ∧ Turn (fun k => k = g) w w' := by
  have H0 : Hid (Rv w w g cap l 0) := Lib.hid ⟨⟨[], l, [], by simp, rfl, rfl, by simpa using h⟩, Turn.refl _ _⟩
  have hfit := h.fits
  rw [← hn] at hfit
  have HL := Lib.hid hn
  clear h hn
  go_enter Try.func57, Try.ntmps57
  go_wp2_with fail
  go_loopw [2, 3] (fun x y wr => ∃ i : Nat, i ≤ n ∧ x = .int .i64 (i : Int) ∧ y = .int .i64 ((n : Int) - 1 - (i : Int)) ∧ Hid (Rv w wr g cap l i)) (fun x _ _ => n - (RowKit.intOf x).toNat)
  case atStart => exact ⟨0, Nat.zero_le _, rfl, by go_num, H0⟩
  case round =>
    obtain ⟨i, h1, rfl, rfl, HP⟩ := hrel
    clear H0
    by_cases hlt : i + i + 1 < n
    · obtain ⟨j, hj⟩ : ∃ j, j + 1 + i = n := ⟨n - 1 - i, by omega⟩
      obtain ⟨xk, xv, yk, yv, hS, hN⟩ := HP.out.two (j := j) (by have := HL.out; omega) (by omega)
      have HS := Lib.hid hS
      have HN := Lib.hid hN
      have HT := Lib.hid HP.out.tu
      have HJ := Lib.hid hj
      have q1 : (n : Int) - 1 - (i : Int) = (j : Int) := by omega
      have q2 : (i : Int) < (j : Int) := by omega
      have b1 : j < n := by omega
      have b2 : i < j := by omega
      have x0 := HS.out.xi.1
      have x1 := HS.out.xi.2
      have y0 := HS.out.yj.1
      have y1 := HS.out.yj.2
      simp only at x0 x1 y0 y1
      have e0 := HS.out.th (i * 2)
      have e1 := HS.out.th (i * 2 + 1)
      have e2 := HS.out.th (j * 2)
      have e3 := HS.out.th (j * 2 + 1)
      have d0 : ¬ i * 2 = j * 2 := by omega
      have d1 : ¬ i * 2 + 1 = j * 2 := by omega
      have d2 : ¬ i * 2 = j * 2 + 1 := by omega
      have d3 : ¬ j * 2 = i * 2 := by omega
      have d4 : ¬ j * 2 + 1 = i * 2 := by omega
      have d5 : ¬ j * 2 = i * 2 + 1 := by omega
      clear hS hN HP hj hlt
      rw [q1]
      go_wp2_with fail
      go_region
      all_goals go_wp2_with fail
      all_goals exact ⟨⟨i + 1, by omega, by go_num, by have := HJ.out; go_num, Lib.hid (HN.out _ (by first | exact HS.out.one | exact HS.out.two) (HT.out.trans (HS.out.tu _ _ _ _ _ _ _ _)))⟩, by simp [RowKit.intOf]; omega⟩
    · have HF := Lib.hid (HP.out.last (by have := HL.out; omega))
      have q1 : ¬ (i : Int) < (n : Int) - 1 - (i : Int) := by omega
      go_wp2_with fail
      go_end0
      exact ⟨rfl, HF.out, HP.out.tu⟩

theorem clone_run (l : List Pr) (a : Addr) (cap : Nat) (w : World) (h : Row w (some a) (pcs l)) (hl : l.length ≤ 100000) :
    ∃ g c w2, BRun2 .append #[22, 22] 22 (.slice (some ⟨w.heap.size, 0, none⟩) 0 0) (.slice (some a) l.length cap) (.slice (some ⟨g, 0, none⟩) l.length c) (w.alloc (.cells #[] 47)) w2 ∧ Hx w2 g c l ∧ c ≤ maxLen ∧ w.heap.size ≤ g ∧ Turn No w w2 := by
  obtain ⟨i0, hi0, hz0, hz1, hz2⟩ := info_parts info50
  have t1 : Turn No w (w.alloc (.cells #[] 47)) := (Turn.refl _ _).alloc _
  have hb : Blk (w.alloc (.cells #[] 47)) w.heap.size [] := At.new w _
  have hr := h.turn t1 (fun _ _ _ h => h)
  by_cases h0 : l.length = 0
  · obtain rfl : l = [] := List.eq_nil_of_length_eq_zero h0
    have hh := run_append_room (P := Try.prog) (w := w.alloc (.cells #[] 47)) 22 22 47 i0 Try.underlying22 hi0 w.heap.size 0 0 #[] hb a 0 cap [] (by simp) (by simp) (by simp) (by omega) (by simp)
    refine ⟨w.heap.size, 0, _, ⟨fun q => ?_⟩, ⟨_, blk_setRow hb [], by simp, by simp, by simp [pcs]⟩, by decide, Nat.le_refl _, t1.then (turn_setRow _ _ _) (fun i hi e => by omega)⟩
    have hh2 : (Builtin.append_ #[22, 22] 22 #[.slice (some ⟨w.heap.size, 0, none⟩) 0 0, .slice (some a) ([] : List Pr).length cap]).run Try.prog (w.alloc (.cells #[] 47)) = _ := hh
    simp only [builtin, Sem.run_bind, hh2, Result.andThen_ok, Sem.run_pure]
    simp
  · obtain ⟨b, o, hA, _⟩ := hr 0 (.string (l[0]'(by omega)).k) (by
      have := pcs_at (l := l) (j := 0) (x := l[0]'(by omega)) (List.getElem?_eq_getElem (by omega)) 0 (by decide)
      simpa [Pr.cs] using this)
    injection hA with hA
    subst hA
    have hcell : ∀ j v, (pcs l)[j]? = some v → (w.alloc (.cells #[] 47)).cell? ((⟨b, o, none⟩ : Addr).add j) = some v := fun j v hj => by
      obtain ⟨b2, o2, hA2, _, hc⟩ := hr j v hj
      injection hA2 with hA2
      injection hA2 with e1 e2
      subst e1 e2
      rw [add_lit0]
      exact hc
    obtain ⟨G, hG⟩ : ∃ G, grownCap (w.alloc (.cells #[] 47)) (0 + l.length) 0 47 = G := ⟨_, rfl⟩
    have hGn : l.length ≤ G := by rw [← hG]; have := grownCap_ge (w.alloc (.cells #[] 47)) (0 + l.length) 0 47; omega
    have hGm : G ≤ maxLen := by rw [← hG]; exact grownCap_le_maxLen _ _ _ _ (by unfold maxLen; omega)
    have hh := run_append_grow (P := Try.prog) (w := w.alloc (.cells #[] 47)) 22 22 47 i0 pz Try.underlying22 hi0 hz0 ⟨w.heap.size, 0, none⟩ 0 0 [] (by simp) (by simp) ⟨b, o, none⟩ l.length cap (pcs l) (by rw [pcs_length, hz1]) hcell (by omega) (by omega) (by rw [hz2]; exact growslice_fits (by omega) (by omega))
    rw [hG] at hh
    obtain ⟨R, hR⟩ : ∃ R : List Value, (([] : List Value).toArray ++ (pcs l).toArray ++ Builtin.zeroCells pz.cells (G - (0 + l.length))).toList = R := ⟨_, rfl⟩
    have hRl : R.length = G * 2 := by
      rw [← hR]
      simp [pcs_length, Builtin.zeroCells, Value.cells]
      omega
    have hRp : R.take (l.length * 2) = pcs l := by
      rw [← hR]
      simp only [Array.toList_append, List.append_assoc, List.nil_append]
      rw [List.take_left' (pcs_length l)]
    have hb2 : Blk ((w.alloc (.cells #[] 47)).drew.alloc (.cells R.toArray 47)) (w.alloc (.cells #[] 47)).heap.size R := At.new (w.alloc (.cells #[] 47)).drew _
    refine ⟨(w.alloc (.cells #[] 47)).heap.size, G, _, ⟨fun q => ?_⟩, ⟨R, hb2, hRl, hGn, hRp⟩, hGm, t1.size, t1.drew.alloc _⟩
    rw [Nat.zero_add] at hh
    simp only [builtin, Sem.run_bind, hh, Result.andThen_ok, Sem.run_pure]
    rw [← hR]
    have e : ∀ Z : Array Value, (pcs l).toArray ++ Z = (pcs l ++ Z.toList).toArray := fun Z => by apply Array.ext'; simp
    simp [e]
/-- Clone of a row that isn't nil. -/
theorem clone25_any (l : List Pr) (a : Addr) (cap : Nat) (w : World) (h : Row w (some a) (pcs l)) (hl : l.length ≤ 100000) :
    Calls Try.prog 56 #[.slice (some a) l.length cap] w fun e w' => ∃ g c, e = .returned (.slice (some ⟨g, 0, none⟩) l.length c) ∧ Hx w' g c l ∧ c ≤ maxLen ∧ w.heap.size ≤ g ∧ Turn No w w' := by
  have q22 : ∀ (w : World), (binOp .eql 22 (.slice (some a) l.length cap) (.slice none 0 0)).run Try.prog w = .ok (.bool false) w := fun w => run_eql_slice_nil w 22 47 (some a) l.length cap 0 0 Try.underlying22
  obtain ⟨g, c, w2, hr, h1, h2, h3, h4⟩ := clone_run l a cap w h hl
  have HE := Lib.hid (And.intro h1 (And.intro h2 (And.intro h3 h4)))
  clear h h1 h2 h3 h4
  go_enter Try.func56, Try.ntmps56
  go_wp2_with (refine wpList_brun2 (by rfl) _ _ .append _ (by rfl) _ _ _ (by rfl) (by rfl) hr ?_)
  go_ret
  exact ⟨g, c, rfl, HE.out⟩
end Go.Proofs.Ytllppkfeiifklaa
namespace Go.Proofs.Ytllppkfeiifklaa
open Go.RowKit Go.Lib
set_option linter.unusedVariables false
set_option maxRecDepth 20000
set_option linter.unusedSimpArgs false

theorem take_two {l : List Pr} {i : Nat} {p q : Pr} (hp : l[i]? = some p) (hq : l[i + 1]? = some q) : l.take (i + 1) = l.take i ++ [p] ∧ l.take (i + 1 + 1) = l.take i ++ [p] ++ [q] := by
  have h1 : l.take (i + 1) = l.take i ++ [p] := by rw [List.take_add_one, hp]; rfl
  refine ⟨h1, ?_⟩
  rw [List.take_add_one, hq, h1]
  rfl
/-- No two alike up to k. -/
structure Co (w0 wr : World) (g cap : Nat) (l : List Pr) (k : Nat) : Prop where
  hx : Hx wr g cap l
  cp : Cpt (l.take k) (l.take k)
  tu : Turn No w0 wr
/-- Those up to i are looked at; k of them are left. -/
structure Ci (w0 wr : World) (g cap : Nat) (l : List Pr) (i k : Nat) : Prop where
  ex : ∃ K J, Hx wr g cap (K ++ J ++ l.drop i) ∧ K.length = k ∧ k + J.length = i ∧ Cpt K (l.take (i + 1))
  tu : Turn (fun k => k = g) w0 wr
section
variable {w0 wr : World} {g cap : Nat} {l : List Pr} {i k : Nat} {p q : Pr}
theorem Co.more (h : Co w0 wr g cap l (i + 1)) (hs : Sd l) (hp : l[i]? = some p) (hq : l[i + 1]? = some q) (hne : q.k ≠ p.k) {w2 : World} (t : Turn No wr w2) : Co w0 w2 g cap l (i + 1 + 1) := by
  obtain ⟨e1, e2⟩ := take_two hp hq
  refine ⟨h.hx.no t, ?_, h.tu.trans t⟩
  have hc := h.cp
  have hs2 := hs.sub (List.take_sublist (i + 1 + 1) l)
  rw [e1] at hc
  rw [e2] at hs2 ⊢
  exact hc.more hs2 hne
theorem Co.same (h : Co w0 wr g cap l (i + 1)) (hp : l[i]? = some p) (hq : l[i + 1]? = some q) (he : q.k = p.k) {w2 : World} (t : Turn No wr w2) : Ci w0 w2 g cap l (i + 1) (i + 1) := by
  obtain ⟨e1, e2⟩ := take_two hp hq
  have hi := (List.getElem?_eq_some_iff.1 hq).1
  refine ⟨⟨l.take (i + 1), [], ?_, by rw [List.length_take]; omega, by simp, ?_⟩, (h.tu.trans t).mono fun _ _ h => h.elim⟩
  · rw [List.append_nil, List.take_append_drop]; exact h.hx.no t
  · have hc := h.cp
    rw [e2]
    rw [e1] at hc ⊢
    exact hc.same he
theorem Ci.cells (h : Ci w0 wr g cap l i k) (hp : l[i]? = some p) (hq : l[i + 1]? = some q) : ∃ uk uv, ∀ w2, Turn No wr w2 →
    (w2.cell? ⟨g, (i + 1) * 2, none⟩ = some (.string q.k) ∧ w2.cell? ⟨g, (i + 1) * 2 + 1, none⟩ = some (.string q.v) ∧ w2.cell? ⟨g, i * 2, none⟩ = some (.string p.k) ∧ w2.cell? ⟨g, i * 2 + 1, none⟩ = some (.string p.v)) ∧
    w2.cell? ⟨g, k * 2, none⟩ = some (.string uk) ∧ w2.cell? ⟨g, k * 2 + 1, none⟩ = some (.string uv) ∧ ∀ q, w2.frozen? ⟨g, q, none⟩ = false := by
  obtain ⟨K, J, hx, hK, hJ, hc⟩ := h.ex
  have hl : (K ++ J).length = i := by rw [List.length_append]; omega
  have gp : (K ++ J ++ l.drop i)[i]? = some p := by
    rw [List.getElem?_append_right (by omega), hl, Nat.sub_self, List.getElem?_drop]
    simpa using hp
  have gq : (K ++ J ++ l.drop i)[i + 1]? = some q := by
    rw [List.getElem?_append_right (by omega), hl, List.getElem?_drop, show i + (i + 1 - i) = i + 1 by omega]
    exact hq
  obtain ⟨u, gu⟩ : ∃ u, (K ++ J ++ l.drop i)[k]? = some u := ⟨_, List.getElem?_eq_getElem (by have := (List.getElem?_eq_some_iff.1 gp).1; omega)⟩
  refine ⟨u.k, u.v, fun w2 t => ?_⟩
  have h2 := hx.no t
  exact ⟨⟨(h2.cells gq).1, (h2.cells gq).2, (h2.cells gp).1, (h2.cells gp).2⟩, (h2.cells gu).1, (h2.cells gu).2, h2.thawed⟩
theorem Ci.same (h : Ci w0 wr g cap l i k) (hp : l[i]? = some p) (hq : l[i + 1]? = some q) (he : q.k = p.k) {w2 : World} (t : Turn No wr w2) : Ci w0 w2 g cap l (i + 1) k := by
  obtain ⟨K, J, hx, hK, hJ, hc⟩ := h.ex
  obtain ⟨e1, e2⟩ := take_two hp hq
  refine ⟨⟨K, J ++ [p], ?_, hK, by simp; omega, ?_⟩, h.tu.then t fun _ _ h => h.elim⟩
  · have := hx.no t
    rw [drop_cons hp] at this
    simpa using this
  · rw [e2]
    rw [e1] at hc
    exact hc.same he
theorem Ci.more (h : Ci w0 wr g cap l i k) (hs : Sd l) (hp : l[i]? = some p) (hq : l[i + 1]? = some q) (hne : q.k ≠ p.k) {w2 : World} (t : Turn No wr w2) :
    Ci w0 ((w2.setCell ⟨g, k * 2, none⟩ (.string q.k)).setCell ⟨g, k * 2 + 1, none⟩ (.string q.v)) g cap l (i + 1) (k + 1) := by
  obtain ⟨K, J, hx, hK, hJ, hc⟩ := h.ex
  obtain ⟨e1, e2⟩ := take_two hp hq
  obtain ⟨y, J', hy⟩ : ∃ y J', J ++ [p] = y :: J' := by
    cases J with
    | nil => exact ⟨p, [], rfl⟩
    | cons y J' => exact ⟨y, J' ++ [p], rfl⟩
  have hyl := congrArg List.length hy
  simp only [List.length_append, List.length_cons, List.length_nil] at hyl
  have hx2 := (hx.no t).set k q
  rw [drop_cons hp] at hx2
  have e3 : K ++ J ++ p :: l.drop (i + 1) = K ++ y :: (J' ++ l.drop (i + 1)) := by
    have : K ++ J ++ p :: l.drop (i + 1) = K ++ ((J ++ [p]) ++ l.drop (i + 1)) := by simp
    rw [this, hy]; rfl
  rw [e3, List.set_append_right _ _ (by omega), show k - K.length = 0 by omega, List.set_cons_zero] at hx2
  refine ⟨⟨K ++ [q], J', by simpa using hx2, by simp [hK], by omega, ?_⟩, (h.tu.then t fun _ _ h => h.elim).trans ((Turn.set1 w2 g (k * 2) _).trans (Turn.set1 _ g (k * 2 + 1) _))⟩
  have hs2 := hs.sub (List.take_sublist (i + 1 + 1) l)
  rw [e2] at hs2 ⊢
  rw [e1] at hc
  exact hc.more hs2 hne
theorem Ci.fin (h : Ci w0 wr g cap l i k) {n : Nat} (hn : n = l.length) (hi : i + 1 = n) : ∃ w2, BRun1 .clear #[22] 0 (.slice (some ⟨g, k * 2, none⟩) (n - k) (cap - k)) (.tuple #[]) wr w2 ∧ k ≤ n ∧
    ∃ K, K.length = k ∧ Hx w2 g cap K ∧ Cpt K l ∧ Turn (fun k => k = g) w0 w2 := by
  obtain ⟨K, J, ⟨cur, hb, hsz, hft, hh⟩, hK, hJ, hc⟩ := h.ex
  have hll : (K ++ J ++ l.drop i).length = n := by simp only [List.length_append, List.length_drop]; omega
  obtain ⟨cs, hcs, hr⟩ := run_cl (cap := cap - k) hb (o := k * 2) (n := n - k) (by rw [hsz]; omega) (by omega) 0
  refine ⟨_, hr, by omega, K, hK, ⟨_, blk_setRow hb _, by rw [length_splice _ _ _ (by omega), hsz], by omega, ?_⟩, ?_, h.tu.trans (turn_setRow _ _ _)⟩
  · have hx : cur.take (K.length * 2) = pcs K := by
      have := congrArg (List.take (K.length * 2)) hh
      rw [List.take_take, Nat.min_eq_left (by omega), List.append_assoc, pcs_append, List.take_left' (pcs_length K)] at this
      exact this
    exact splice_keep hx (by omega) (by omega)
  · rw [List.take_of_length_le (by omega)] at hc
    exact hc
end
theorem cpt_few {l : List Pr} (h : l.length < 2) : Cpt l l := by
  match l, h with
  | [], _ => exact Cpt.nil
  | [p], _ => exact Cpt.start p

set_option maxHeartbeats 4000000 in
theorem comp30_any {w : World} {g cap : Nat} (l : List Pr) (h : Hx w g cap l) (hs : Sd l) (hc : cap ≤ maxLen) {n : Nat} (hl : n ≤ 100000) (hn : n = l.length) :
    Calls Try.prog 61 #[.slice (some ⟨g, 0, none⟩) n cap, .func (.func 62) #[] #[]] w fun e w' => ∃ K : List Pr, e = .returned (.slice (some ⟨g, 0, none⟩) K.length cap) ∧ Hx w' g cap K ∧ Cpt K l ∧ Turn (fun k => k = g) w w' := by
  have hfit := h.fits
  rw [← hn] at hfit
  have C31 := Lib.hid same31_any
  have HL := Lib.hid (And.intro hn (And.intro hs h))
  unfold maxLen at hc
  clear h hn hs
  by_cases h2 : n < 2
  · go_enter Try.func61, Try.ntmps61
    go_wp2_with fail
    go_ret
    exact ⟨l, by rw [HL.out.1]; rfl, HL.out.2.2, cpt_few (by have := HL.out.1; omega), Turn.refl _ _⟩
  · have H0 : Hid (Co w w g cap l 1) := Lib.hid ⟨HL.out.2.2, cpt_few (by rw [List.length_take]; omega), Turn.refl _ _⟩
    go_enter Try.func61, Try.ntmps61
    go_wp2_with fail
    go_loopw [5] (fun x wr => ∃ i : Nat, i + 1 ≤ n ∧ x = .int .i64 ((i : Int) + 1) ∧ Hid (Co w wr g cap l (i + 1))) (fun x _ => n - (RowKit.intOf x).toNat)
    case atStart => exact ⟨0, by omega, rfl, H0⟩
    case round =>
      obtain ⟨i, h1, rfl, HP⟩ := hrel
      clear H0
      by_cases hlt : i + 1 < n
      · obtain ⟨q, hq⟩ : ∃ q, l[i + 1]? = some q := ⟨l[i + 1]'(by have := HL.out.1; omega), List.getElem?_eq_getElem _⟩
        obtain ⟨p, hp⟩ : ∃ p, l[i]? = some p := ⟨l[i]'(by have := HL.out.1; omega), List.getElem?_eq_getElem _⟩
        obtain ⟨i1, hi1⟩ : ∃ i1, i + 1 = i1 := ⟨_, rfl⟩
        have q1 : (i : Int) + 1 = (i1 : Int) := by omega
        have q2 : (i1 : Int) - 1 = (i : Int) := by omega
        have q2a : IntKind.i64.wrap ((i1 : Int) - 1) = (i : Int) := by rw [IntKind.wrap_i64]; omega
        have q2b : IntKind.i64.wrap (i : Int) = (i : Int) := by rw [IntKind.wrap_i64]; omega
        have q3 : (0 : Int) ≤ (i : Int) := by omega
        have q4 : (i : Int) < (n : Int) := by omega
        have q5 : (0 : Int) ≤ (i1 : Int) := by omega
        have q6 : (i1 : Int) < (n : Int) := by omega
        have HE : Hid ((q.k ≠ p.k → ∀ w2, Turn No wr w2 → Co w w2 g cap l (i1 + 1)) ∧ (q.k = p.k → ∀ w2, Turn No wr w2 → Ci w w2 g cap l i1 i1)) := by subst hi1; exact Lib.hid ⟨fun hne w2 t => HP.out.more HL.out.2.1 hp hq hne t, fun he w2 t => HP.out.same hp hq he t⟩
        have HI := Lib.hid hi1
        have hq' : l[i1]? = some q := by rw [← hi1]; exact hq
        obtain ⟨qk, qv⟩ := q
        obtain ⟨pk, pv⟩ := p
        have HC : Hid (∀ w2, Turn No wr w2 → w2.cell? ⟨g, i1 * 2, none⟩ = some (.string qk) ∧ w2.cell? ⟨g, i1 * 2 + 1, none⟩ = some (.string qv) ∧ w2.cell? ⟨g, i * 2, none⟩ = some (.string pk) ∧ w2.cell? ⟨g, i * 2 + 1, none⟩ = some (.string pv)) := Lib.hid fun w2 t => ⟨((HP.out.hx.no t).cells hq').1, ((HP.out.hx.no t).cells hq').2, ((HP.out.hx.no t).cells hp).1, ((HP.out.hx.no t).cells hp).2⟩
        have b1 : i1 < n := by omega
        rw [q1]
        clear hq hp hq' hi1 HP q1 h1 hlt
        by_cases hk : qk = pk
        · have HE2 := Lib.hid (HE.out.2 hk)
          have hkd : decide (qk = pk) = true := decide_eq_true hk
          clear hk HE
          go_wp2_with fail
          have x0 := (HC.out wr (Turn.refl _ _)).1
          have x1 := (HC.out wr (Turn.refl _ _)).2.1
          have x2 := (HC.out wr (Turn.refl _ _)).2.2.1
          have x3 := (HC.out wr (Turn.refl _ _)).2.2.2
          have hS0 : wr.drew.cell? ⟨g, i1 * 2, none⟩ = some (.string qk) ∧ wr.drew.cell? ⟨g, i1 * 2 + 1, none⟩ = some (.string qv) ∧ wr.drew.cell? ⟨g, i * 2, none⟩ = some (.string pk) ∧ wr.drew.cell? ⟨g, i * 2 + 1, none⟩ = some (.string pv) := ⟨by simpa using x0, by simpa using x1, by simpa using x2, by simpa using x3⟩
          have hS1 : Hid (∀ w2, Turn No wr w2 → w2.cell? ⟨g, i1 * 2, none⟩ = some (.string qk) ∧ w2.cell? ⟨g, i1 * 2 + 1, none⟩ = some (.string qv) ∧ w2.cell? ⟨g, i * 2, none⟩ = some (.string pk) ∧ w2.cell? ⟨g, i * 2 + 1, none⟩ = some (.string pv)) := HC
          go_region_held3 (fun W => W.cell? ⟨g, i1 * 2, none⟩ = some (.string qk) ∧ W.cell? ⟨g, i1 * 2 + 1, none⟩ = some (.string qv) ∧ W.cell? ⟨g, i * 2, none⟩ = some (.string pk) ∧ W.cell? ⟨g, i * 2 + 1, none⟩ = some (.string pv)) (first | (with_reducible exact hS0) | (with_reducible exact hS1.out _ HT2.out)) (first | (go_at_call 62; (with_reducible refine (C31.out qk qv pk pv _).mono ?_); rintro e w2 ⟨rfl, ht⟩; have HT2 : Hid (Turn No wr w2) := Lib.hid (((Turn.refl No wr).drewN _).trans ht); clear ht))
          clear hS0 hS1 x0 x1 x2 x3
          have HJ := Lib.hid (HE2.out w2 HT2.out)
          clear HE2 HC
          go_wp2_with fail
          go_loopw [5, 7] (fun x y wr => ∃ k t : Nat, k ≤ i1 + t ∧ i1 + t + 1 ≤ n ∧ x = .int .i64 (k : Int) ∧ y = .int .i64 ((t : Int) + 1) ∧ Hid (Ci w wr g cap l (i1 + t) k)) (fun _ y _ => n - i1 - (RowKit.intOf y).toNat)
          case atStart => exact ⟨i1, 0, by omega, by omega, rfl, rfl, HJ⟩
          case round =>
            obtain ⟨k, t, h3, h4, rfl, rfl, HP⟩ := hrel
            clear HJ
            by_cases hlt : i1 + t + 1 < n
            · obtain ⟨q, hq⟩ : ∃ q, l[i1 + t + 1]? = some q := ⟨l[i1 + t + 1]'(by have := HL.out.1; omega), List.getElem?_eq_getElem _⟩
              obtain ⟨p, hp⟩ : ∃ p, l[i1 + t]? = some p := ⟨l[i1 + t]'(by have := HL.out.1; omega), List.getElem?_eq_getElem _⟩
              obtain ⟨t1, ht1⟩ : ∃ t1, t + 1 = t1 := ⟨_, rfl⟩
              obtain ⟨uk, uv, hcell⟩ := HP.out.cells hp hq
              have HE : Hid ((q.k = p.k → ∀ w2, Turn No wr w2 → Ci w w2 g cap l (i1 + t1) k) ∧ (q.k ≠ p.k → ∀ w2, Turn No wr w2 → Ci w ((w2.setCell ⟨g, k * 2, none⟩ (.string q.k)).setCell ⟨g, k * 2 + 1, none⟩ (.string q.v)) g cap l (i1 + t1) (k + 1))) := by subst ht1; exact Lib.hid ⟨fun he w2 t => HP.out.same hp hq he t, fun hne w2 t => HP.out.more HL.out.2.1 hp hq hne t⟩
              have q1 : (t : Int) + 1 = (t1 : Int) := by omega
              have q2 : (t1 : Int) - 1 = (t : Int) := by omega
              have q2a : IntKind.i64.wrap ((t1 : Int) - 1) = (t : Int) := by rw [IntKind.wrap_i64]; omega
              have q2b : IntKind.i64.wrap (t : Int) = (t : Int) := by rw [IntKind.wrap_i64]; omega
              have q3 : (0 : Int) ≤ (t : Int) := by omega
              have q4 : (t : Int) < (n : Int) - (i1 : Int) := by omega
              have q4b : (t : Int) < ((n - i1 : Nat) : Int) := by omega
              have q5 : (0 : Int) ≤ (t1 : Int) := by omega
              have q6 : (t1 : Int) < (n : Int) - (i1 : Int) := by omega
              have q6b : (t1 : Int) < ((n - i1 : Nat) : Int) := by omega
              have b2 : t1 < n - i1 := by omega
              have b3 : k < n := by omega
              obtain ⟨qk, qv⟩ := q
              obtain ⟨pk, pv⟩ := p
              have HC : Hid (∀ w2, Turn No wr w2 → w2.cell? ⟨g, i1 * 2 + t1 * 2, none⟩ = some (.string qk) ∧ w2.cell? ⟨g, i1 * 2 + t1 * 2 + 1, none⟩ = some (.string qv) ∧ w2.cell? ⟨g, i1 * 2 + t * 2, none⟩ = some (.string pk) ∧ w2.cell? ⟨g, i1 * 2 + t * 2 + 1, none⟩ = some (.string pv)) := Lib.hid fun w2 t0 => by
                have h := (hcell w2 t0).1
                rw [show i1 * 2 + t1 * 2 = (i1 + t + 1) * 2 by omega, show i1 * 2 + t * 2 = (i1 + t) * 2 by omega]
                exact h
              have HU : Hid (∀ w2, Turn No wr w2 → w2.cell? ⟨g, k * 2, none⟩ = some (.string uk) ∧ w2.cell? ⟨g, k * 2 + 1, none⟩ = some (.string uv) ∧ ∀ q, w2.frozen? ⟨g, q, none⟩ = false) := Lib.hid fun w2 t0 => (hcell w2 t0).2
              have HTT := Lib.hid ht1
              rw [q1]
              clear hq hp hcell ht1 q1 HP
              by_cases hk : qk = pk
              · have HE2 := Lib.hid (HE.out.1 hk)
                have hkd : decide (qk = pk) = true := decide_eq_true hk
                clear hk HE
                go_wp2_with fail
                have x0 := (HC.out wr (Turn.refl _ _)).1
                have x1 := (HC.out wr (Turn.refl _ _)).2.1
                have x2 := (HC.out wr (Turn.refl _ _)).2.2.1
                have x3 := (HC.out wr (Turn.refl _ _)).2.2.2
                have hS0 : wr.drew.cell? ⟨g, i1 * 2 + t1 * 2, none⟩ = some (.string qk) ∧ wr.drew.cell? ⟨g, i1 * 2 + t1 * 2 + 1, none⟩ = some (.string qv) ∧ wr.drew.cell? ⟨g, i1 * 2 + t * 2, none⟩ = some (.string pk) ∧ wr.drew.cell? ⟨g, i1 * 2 + t * 2 + 1, none⟩ = some (.string pv) := ⟨by simpa using x0, by simpa using x1, by simpa using x2, by simpa using x3⟩
                have hS1 : Hid (∀ w2, Turn No wr w2 → w2.cell? ⟨g, i1 * 2 + t1 * 2, none⟩ = some (.string qk) ∧ w2.cell? ⟨g, i1 * 2 + t1 * 2 + 1, none⟩ = some (.string qv) ∧ w2.cell? ⟨g, i1 * 2 + t * 2, none⟩ = some (.string pk) ∧ w2.cell? ⟨g, i1 * 2 + t * 2 + 1, none⟩ = some (.string pv)) := HC
                go_region_held3 (fun W => W.cell? ⟨g, i1 * 2 + t1 * 2, none⟩ = some (.string qk) ∧ W.cell? ⟨g, i1 * 2 + t1 * 2 + 1, none⟩ = some (.string qv) ∧ W.cell? ⟨g, i1 * 2 + t * 2, none⟩ = some (.string pk) ∧ W.cell? ⟨g, i1 * 2 + t * 2 + 1, none⟩ = some (.string pv)) (first | (with_reducible exact hS0) | (with_reducible exact hS1.out _ HT2.out)) (first | (go_at_call 62; (with_reducible refine (C31.out qk qv pk pv _).mono ?_); rintro e w2 ⟨rfl, ht⟩; have HT2 : Hid (Turn No wr w2) := Lib.hid (((Turn.refl No wr).drewN _).trans ht); clear ht))
                clear hS0 hS1 x0 x1 x2 x3
                go_wp2_with fail
                have := HTT.out
                exact ⟨⟨k, t1, by omega, by omega, rfl, by go_num, Lib.hid (HE2.out _ HT2.out)⟩, by simp [RowKit.intOf]; omega⟩
              · have HE2 := Lib.hid (HE.out.2 hk)
                have hkd : decide (qk = pk) = false := decide_eq_false hk
                clear hk HE
                go_wp2_with fail
                have x0 := (HC.out wr (Turn.refl _ _)).1
                have x1 := (HC.out wr (Turn.refl _ _)).2.1
                have x2 := (HC.out wr (Turn.refl _ _)).2.2.1
                have x3 := (HC.out wr (Turn.refl _ _)).2.2.2
                have hS0 : wr.drew.cell? ⟨g, i1 * 2 + t1 * 2, none⟩ = some (.string qk) ∧ wr.drew.cell? ⟨g, i1 * 2 + t1 * 2 + 1, none⟩ = some (.string qv) ∧ wr.drew.cell? ⟨g, i1 * 2 + t * 2, none⟩ = some (.string pk) ∧ wr.drew.cell? ⟨g, i1 * 2 + t * 2 + 1, none⟩ = some (.string pv) := ⟨by simpa using x0, by simpa using x1, by simpa using x2, by simpa using x3⟩
                have hS1 : Hid (∀ w2, Turn No wr w2 → w2.cell? ⟨g, i1 * 2 + t1 * 2, none⟩ = some (.string qk) ∧ w2.cell? ⟨g, i1 * 2 + t1 * 2 + 1, none⟩ = some (.string qv) ∧ w2.cell? ⟨g, i1 * 2 + t * 2, none⟩ = some (.string pk) ∧ w2.cell? ⟨g, i1 * 2 + t * 2 + 1, none⟩ = some (.string pv)) := HC
                go_region_held3 (fun W => W.cell? ⟨g, i1 * 2 + t1 * 2, none⟩ = some (.string qk) ∧ W.cell? ⟨g, i1 * 2 + t1 * 2 + 1, none⟩ = some (.string qv) ∧ W.cell? ⟨g, i1 * 2 + t * 2, none⟩ = some (.string pk) ∧ W.cell? ⟨g, i1 * 2 + t * 2 + 1, none⟩ = some (.string pv)) (first | (with_reducible exact hS0) | (with_reducible exact hS1.out _ HT2.out)) (first | (go_at_call 62; (with_reducible refine (C31.out qk qv pk pv _).mono ?_); rintro e w2 ⟨rfl, ht⟩; have HT2 : Hid (Turn No wr w2) := Lib.hid (((Turn.refl No wr).drewN _).trans ht); clear ht))
                clear hS0 hS1 x0 x1 x2 x3
                have y0 := (HU.out w2 HT2.out).1
                have y1 := (HU.out w2 HT2.out).2.1
                have e0 := (HU.out w2 HT2.out).2.2 (k * 2)
                have e1 := (HU.out w2 HT2.out).2.2 (k * 2 + 1)
                have z0 := (HC.out w2 HT2.out).1
                have z1 := (HC.out w2 HT2.out).2.1
                have HF := Lib.hid (HE2.out _ HT2.out)
                clear HE2 HU HC
                go_wp2_with fail
                have := HTT.out
                exact ⟨⟨k + 1, t1, by omega, by omega, by go_num, by go_num, HF⟩, by simp [RowKit.intOf]; omega⟩
            · obtain ⟨w5, hr5, hkn, hF⟩ := HP.out.fin HL.out.1 (by omega)
              have HF := Lib.hid hF
              have q1 : ¬ (t : Int) + 1 < (n : Int) - (i1 : Int) := by omega
              have q1b : ¬ (t : Int) + 1 < ((n - i1 : Nat) : Int) := by omega
              have b4 : k ≤ cap := by omega
              clear hF HP
              go_wp2_with (refine wpList_brun1 (by rfl) _ .clear _ (by rfl) _ _ (by rfl) hr5 ?_)
              go_ret
              obtain ⟨K, hK, a, b, c⟩ := HF.out
              subst hK
              exact ⟨K, rfl, a, b, c⟩
        · have HE2 := Lib.hid (HE.out.1 hk)
          have hkd : decide (qk = pk) = false := decide_eq_false hk
          clear hk HE
          go_wp2_with fail
          have x0 := (HC.out wr (Turn.refl _ _)).1
          have x1 := (HC.out wr (Turn.refl _ _)).2.1
          have x2 := (HC.out wr (Turn.refl _ _)).2.2.1
          have x3 := (HC.out wr (Turn.refl _ _)).2.2.2
          have hS0 : wr.drew.cell? ⟨g, i1 * 2, none⟩ = some (.string qk) ∧ wr.drew.cell? ⟨g, i1 * 2 + 1, none⟩ = some (.string qv) ∧ wr.drew.cell? ⟨g, i * 2, none⟩ = some (.string pk) ∧ wr.drew.cell? ⟨g, i * 2 + 1, none⟩ = some (.string pv) := ⟨by simpa using x0, by simpa using x1, by simpa using x2, by simpa using x3⟩
          have hS1 : Hid (∀ w2, Turn No wr w2 → w2.cell? ⟨g, i1 * 2, none⟩ = some (.string qk) ∧ w2.cell? ⟨g, i1 * 2 + 1, none⟩ = some (.string qv) ∧ w2.cell? ⟨g, i * 2, none⟩ = some (.string pk) ∧ w2.cell? ⟨g, i * 2 + 1, none⟩ = some (.string pv)) := HC
          go_region_held3 (fun W => W.cell? ⟨g, i1 * 2, none⟩ = some (.string qk) ∧ W.cell? ⟨g, i1 * 2 + 1, none⟩ = some (.string qv) ∧ W.cell? ⟨g, i * 2, none⟩ = some (.string pk) ∧ W.cell? ⟨g, i * 2 + 1, none⟩ = some (.string pv)) (first | (with_reducible exact hS0) | (with_reducible exact hS1.out _ HT2.out)) (first | (go_at_call 62; (with_reducible refine (C31.out qk qv pk pv _).mono ?_); rintro e w2 ⟨rfl, ht⟩; have HT2 : Hid (Turn No wr w2) := Lib.hid (((Turn.refl No wr).drewN _).trans ht); clear ht))
          clear hS0 hS1 x0 x1 x2 x3
          go_wp2_with fail
          have := HI.out
          exact ⟨⟨i1, by omega, by go_num, Lib.hid (HE2.out _ HT2.out)⟩, by simp [RowKit.intOf]; omega⟩
      · have hF : Hid (Cpt l l) := Lib.hid (by
          have := HP.out.cp
          rw [List.take_of_length_le (by have := HL.out.1; omega)] at this
          exact this)
        have q1 : ¬ (i : Int) + 1 < (n : Int) := by omega
        go_wp2_with fail
        go_ret
        exact ⟨l, by rw [HL.out.1]; rfl, HP.out.hx, hF.out, HP.out.tu.mono fun _ _ h => h.elim⟩
end Go.Proofs.Ytllppkfeiifklaa
