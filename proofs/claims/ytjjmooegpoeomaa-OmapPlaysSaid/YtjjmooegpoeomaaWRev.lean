/-
  slices.Clone and slices.Reverse of a row of pairs.
-/
import Derived.Test.YtjjmooegpoeomaaWSwr
import Derived.Test.YtjjmooegpoeomaaWCln
import Derived.Laws.Append
namespace Go.Proofs.Ytjjmooegpoeomaa
open Go.RowKit Go.Lib
set_option linter.unusedVariables false
set_option linter.unusedSimpArgs false

/-- A row that is half turned round. -/
structure Rv (w0 wr : World) (g cap : Nat) (l : List Pr) (i : Nat) : Prop where
  ex : ∃ X M Y, l = X ++ M ++ Y ∧ X.length = i ∧ Y.length = i ∧ Hx wr g cap (Y.reverse ++ M ++ X.reverse)
  tu : Turn (fun k => k = g) w0 wr
section
variable {w0 wr : World} {g cap : Nat} {l : List Pr} {i : Nat}
theorem Rv.two (h : Rv w0 wr g cap l i) {j : Nat} (hj : j + 1 + i = l.length) (hij : i < j) : ∃ xk xv yk yv, Sw wr g cap i j ⟨xk, xv⟩ ⟨yk, yv⟩ (((l.drop (j)).reverse) ++ (l.drop (i + 1)).take (j - (i + 1)) ++ (l.take (i + 1)).reverse) ∧
    ∀ W, Hx W g cap (((l.drop (j)).reverse) ++ (l.drop (i + 1)).take (j - (i + 1)) ++ (l.take (i + 1)).reverse) → Turn (fun k => k = g) w0 W → Rv w0 W g cap l (i + 1) := by
  obtain ⟨X, M, Y, hl, hX, hY, hx⟩ := h.ex
  have hlen := congrArg List.length hl
  simp only [List.length_append] at hlen
  have hM : j + 1 = i + M.length := by omega
  obtain ⟨x, M1, rfl⟩ : ∃ x M1, M = x :: M1 := by
    cases M with
    | nil => simp at hM; omega
    | cons x M1 => exact ⟨x, M1, rfl⟩
  simp only [List.length_cons] at hM
  rcases List.eq_nil_or_concat M1 with rfl | ⟨M', y, rfl⟩
  · simp at hM; omega
  · rw [List.concat_eq_append] at hl hx hM
    simp only [List.length_append, List.length_cons, List.length_nil] at hM
    have e1 : l.drop j = y :: Y := by
      have : l = (X ++ x :: M') ++ (y :: Y) := by rw [hl]; simp
      rw [this, List.drop_left' (by simp; omega)]
    have e2 : l.take (i + 1) = X ++ [x] := by
      have : l = (X ++ [x]) ++ (M' ++ y :: Y) := by rw [hl]; simp
      rw [this, List.take_left' (by simp; omega)]
    have e3 : (l.drop (i + 1)).take (j - (i + 1)) = M' := by
      have : l = (X ++ [x]) ++ (M' ++ y :: Y) := by rw [hl]; simp
      rw [this, List.drop_left' (by simp; omega), List.take_left' (by omega)]
    have e4 : Y.reverse ++ x :: (M' ++ [y]) ++ X.reverse = Y.reverse ++ x :: (M' ++ y :: X.reverse) := by simp
    rw [e4] at hx
    have hS := hx.sw (i := i) (j := j) (by simp; omega) (by simp; omega)
    have e5 : ((l.drop j).reverse) ++ (l.drop (i + 1)).take (j - (i + 1)) ++ (l.take (i + 1)).reverse = Y.reverse ++ y :: (M' ++ x :: X.reverse) := by rw [e1, e2, e3]; simp
    refine ⟨x.k, x.v, y.k, y.v, ?_, fun W hW t => ⟨⟨X ++ [x], M', y :: Y, ?_, by simp; omega, by simp; omega, ?_⟩, t⟩⟩
    · rw [e5]; exact hS
    · rw [hl]; simp
    · rw [e5] at hW; simpa using hW
theorem Rv.last (h : Rv w0 wr g cap l i) (hi : l.length ≤ i + i + 1) : Hx wr g cap l.reverse := by
  obtain ⟨X, M, Y, hl, hX, hY, hx⟩ := h.ex
  have hlen := congrArg List.length hl
  simp only [List.length_append] at hlen
  have : M.reverse = M := by
    match M with
    | [] => rfl
    | [x] => rfl
    | x :: y :: t => simp at hlen; omega
  rw [hl, List.reverse_append, List.reverse_append, this]
  simpa using hx
end

set_option maxHeartbeats 2000000 in
theorem rev26_any {w : World} {g cap : Nat} (l : List Pr) (h : Hx w g cap l) {n : Nat} (hl : n ≤ 100000) (hn : n = l.length) :
    Calls Try.prog 26 #[.slice (some ⟨g, 0, none⟩) n cap] w fun e w' => e = .returned (.tuple #[]) ∧ Hx w' g cap l.reverse ∧ Turn (fun k => k = g) w w' := by
  have H0 : Hid (Rv w w g cap l 0) := Lib.hid ⟨⟨[], l, [], by simp, rfl, rfl, by simpa using h⟩, Turn.refl _ _⟩
  have hfit := h.fits
  rw [← hn] at hfit
  have HL := Lib.hid hn
  clear h hn
  go_enter Try.func26, Try.ntmps26
  go_wp2_with fail
  go_loopw [2, 3] (fun x y wr => ∃ i : Nat, i ≤ n ∧ x = .int .i64 (i : Int) ∧ y = .int .i64 ((n : Int) - 1 - (i : Int)) ∧ Hid (Rv w wr g cap l i)) (fun x _ _ => n - (RowKit.intOf x).toNat)
  case atStart => exact ⟨0, Nat.zero_le _, rfl, by go_num, H0⟩
  case round =>
    obtain ⟨i, h1, rfl, rfl, HP⟩ := hrel
    clear H0
    by_cases hlt : i + i + 1 < n
    · obtain ⟨j, hj⟩ : ∃ j, j + 1 + i = n := ⟨n - 1 - i, by omega⟩
      obtain ⟨xk, xv, yk, yv, hS, hN⟩ := HP.out.two (j := j) (by have := HL.out; omega) (by omega)
      have HS := Lib.hid hS
      have HN := Lib.hid hN
      have HT := Lib.hid HP.out.tu
      have HJ := Lib.hid hj
      have q1 : (n : Int) - 1 - (i : Int) = (j : Int) := by omega
      have q2 : (i : Int) < (j : Int) := by omega
      have b1 : j < n := by omega
      have b2 : i < j := by omega
      have x0 := HS.out.xi.1
      have x1 := HS.out.xi.2
      have y0 := HS.out.yj.1
      have y1 := HS.out.yj.2
      simp only at x0 x1 y0 y1
      have e0 := HS.out.th (i * 2)
      have e1 := HS.out.th (i * 2 + 1)
      have e2 := HS.out.th (j * 2)
      have e3 := HS.out.th (j * 2 + 1)
      have d0 : ¬ i * 2 = j * 2 := by omega
      have d1 : ¬ i * 2 + 1 = j * 2 := by omega
      have d2 : ¬ i * 2 = j * 2 + 1 := by omega
      have d3 : ¬ j * 2 = i * 2 := by omega
      have d4 : ¬ j * 2 + 1 = i * 2 := by omega
      have d5 : ¬ j * 2 = i * 2 + 1 := by omega
      clear hS hN HP hj hlt
      rw [q1]
      go_wp2_with fail
      go_region
      all_goals go_wp2_with fail
      all_goals exact ⟨⟨i + 1, by omega, by go_num, by have := HJ.out; go_num, Lib.hid (HN.out _ (by first | exact HS.out.one | exact HS.out.two) (HT.out.trans (HS.out.tu _ _ _ _ _ _ _ _)))⟩, by simp [RowKit.intOf]; omega⟩
    · have HF := Lib.hid (HP.out.last (by have := HL.out; omega))
      have q1 : ¬ (i : Int) < (n : Int) - 1 - (i : Int) := by omega
      go_wp2_with fail
      go_end0
      exact ⟨rfl, HF.out, HP.out.tu⟩

theorem clone_run (l : List Pr) (a : Addr) (cap : Nat) (w : World) (h : Row w (some a) (pcs l)) (hl : l.length ≤ 100000) :
    ∃ g c w2, BRun2 .append #[22, 22] 22 (.slice (some ⟨w.heap.size, 0, none⟩) 0 0) (.slice (some a) l.length cap) (.slice (some ⟨g, 0, none⟩) l.length c) (w.alloc (.cells #[] 50)) w2 ∧ Hx w2 g c l ∧ c ≤ maxLen ∧ w.heap.size ≤ g ∧ Turn No w w2 := by
  obtain ⟨i0, hi0, hz0, hz1, hz2⟩ := info_parts info50
  have t1 : Turn No w (w.alloc (.cells #[] 50)) := (Turn.refl _ _).alloc _
  have hb : Blk (w.alloc (.cells #[] 50)) w.heap.size [] := At.new w _
  have hr := h.turn t1 (fun _ _ _ h => h)
  by_cases h0 : l.length = 0
  · obtain rfl : l = [] := List.eq_nil_of_length_eq_zero h0
    have hh := run_append_room (P := Try.prog) (w := w.alloc (.cells #[] 50)) 22 22 50 i0 Try.underlying22 hi0 w.heap.size 0 0 #[] hb a 0 cap [] (by simp) (by simp) (by simp) (by omega) (by simp)
    refine ⟨w.heap.size, 0, _, ⟨fun q => ?_⟩, ⟨_, blk_setRow hb [], by simp, by simp, by simp [pcs]⟩, by decide, Nat.le_refl _, t1.then (turn_setRow _ _ _) (fun i hi e => by omega)⟩
    have hh2 : (Builtin.append_ #[22, 22] 22 #[.slice (some ⟨w.heap.size, 0, none⟩) 0 0, .slice (some a) ([] : List Pr).length cap]).run Try.prog (w.alloc (.cells #[] 50)) = _ := hh
    simp only [builtin, Sem.run_bind, hh2, Result.andThen_ok, Sem.run_pure]
    simp
  · obtain ⟨b, o, hA, _⟩ := hr 0 (.string (l[0]'(by omega)).k) (by
      have := pcs_at (l := l) (j := 0) (x := l[0]'(by omega)) (List.getElem?_eq_getElem (by omega)) 0 (by decide)
      simpa [Pr.cs] using this)
    injection hA with hA
    subst hA
    have hcell : ∀ j v, (pcs l)[j]? = some v → (w.alloc (.cells #[] 50)).cell? ((⟨b, o, none⟩ : Addr).add j) = some v := fun j v hj => by
      obtain ⟨b2, o2, hA2, _, hc⟩ := hr j v hj
      injection hA2 with hA2
      injection hA2 with e1 e2
      subst e1 e2
      rw [add_lit0]
      exact hc
    obtain ⟨G, hG⟩ : ∃ G, grownCap (w.alloc (.cells #[] 50)) (0 + l.length) 0 50 = G := ⟨_, rfl⟩
    have hGn : l.length ≤ G := by rw [← hG]; have := grownCap_ge (w.alloc (.cells #[] 50)) (0 + l.length) 0 50; omega
    have hGm : G ≤ maxLen := by rw [← hG]; exact grownCap_le_maxLen _ _ _ _ (by unfold maxLen; omega)
    have hh := run_append_grow (P := Try.prog) (w := w.alloc (.cells #[] 50)) 22 22 50 i0 pz Try.underlying22 hi0 hz0 ⟨w.heap.size, 0, none⟩ 0 0 [] (by simp) (by simp) ⟨b, o, none⟩ l.length cap (pcs l) (by rw [pcs_length, hz1]) hcell (by omega) (by omega) (by rw [hz2]; exact growslice_fits (by omega) (by omega))
    rw [hG] at hh
    obtain ⟨R, hR⟩ : ∃ R : List Value, (([] : List Value).toArray ++ (pcs l).toArray ++ Builtin.zeroCells pz.cells (G - (0 + l.length))).toList = R := ⟨_, rfl⟩
    have hRl : R.length = G * 2 := by
      rw [← hR]
      simp [pcs_length, Builtin.zeroCells, Value.cells]
      omega
    have hRp : R.take (l.length * 2) = pcs l := by
      rw [← hR]
      simp only [Array.toList_append, List.append_assoc, List.nil_append]
      rw [List.take_left' (pcs_length l)]
    have hb2 : Blk ((w.alloc (.cells #[] 50)).drew.alloc (.cells R.toArray 50)) (w.alloc (.cells #[] 50)).heap.size R := At.new (w.alloc (.cells #[] 50)).drew _
    refine ⟨(w.alloc (.cells #[] 50)).heap.size, G, _, ⟨fun q => ?_⟩, ⟨R, hb2, hRl, hGn, hRp⟩, hGm, t1.size, t1.drew.alloc _⟩
    rw [Nat.zero_add] at hh
    simp only [builtin, Sem.run_bind, hh, Result.andThen_ok, Sem.run_pure]
    rw [← hR]
    have e : ∀ Z : Array Value, (pcs l).toArray ++ Z = (pcs l ++ Z.toList).toArray := fun Z => by apply Array.ext'; simp
    simp [e]
/-- Clone of a row that isn't nil. -/
theorem clone25_any (l : List Pr) (a : Addr) (cap : Nat) (w : World) (h : Row w (some a) (pcs l)) (hl : l.length ≤ 100000) :
    Calls Try.prog 25 #[.slice (some a) l.length cap] w fun e w' => ∃ g c, e = .returned (.slice (some ⟨g, 0, none⟩) l.length c) ∧ Hx w' g c l ∧ c ≤ maxLen ∧ w.heap.size ≤ g ∧ Turn No w w' := by
  have q22 : ∀ (w : World), (binOp .eql 22 (.slice (some a) l.length cap) (.slice none 0 0)).run Try.prog w = .ok (.bool false) w := fun w => run_eql_slice_nil w 22 50 (some a) l.length cap 0 0 Try.underlying22
  obtain ⟨g, c, w2, hr, h1, h2, h3, h4⟩ := clone_run l a cap w h hl
  have HE := Lib.hid (And.intro h1 (And.intro h2 (And.intro h3 h4)))
  clear h h1 h2 h3 h4
  go_enter Try.func25, Try.ntmps25
  go_wp2_with (refine wpList_brun2 (by rfl) _ _ .append _ (by rfl) _ _ _ (by rfl) (by rfl) hr ?_)
  go_ret
  exact ⟨g, c, rfl, HE.out⟩
end Go.Proofs.Ytjjmooegpoeomaa
