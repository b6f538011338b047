/-
  slices.CompactFunc: of keys that are alike the first one is left.
-/
import Derived.Test.YtjjmooegpoeomaaWRev
namespace Go.Proofs.Ytjjmooegpoeomaa
open Go.RowKit Go.Lib
set_option linter.unusedVariables false
set_option linter.unusedSimpArgs false

theorem take_two {l : List Pr} {i : Nat} {p q : Pr} (hp : l[i]? = some p) (hq : l[i + 1]? = some q) : l.take (i + 1) = l.take i ++ [p] ∧ l.take (i + 1 + 1) = l.take i ++ [p] ++ [q] := by
  have h1 : l.take (i + 1) = l.take i ++ [p] := by rw [List.take_add_one, hp]; rfl
  refine ⟨h1, ?_⟩
  rw [List.take_add_one, hq, h1]
  rfl
/-- No two alike up to k. -/
structure Co (w0 wr : World) (g cap : Nat) (l : List Pr) (k : Nat) : Prop where
  hx : Hx wr g cap l
  cp : Cpt (l.take k) (l.take k)
  tu : Turn No w0 wr
/-- Those up to i are looked at; k of them are left. -/
structure Ci (w0 wr : World) (g cap : Nat) (l : List Pr) (i k : Nat) : Prop where
  ex : ∃ K J, Hx wr g cap (K ++ J ++ l.drop i) ∧ K.length = k ∧ k + J.length = i ∧ Cpt K (l.take (i + 1))
  tu : Turn (fun k => k = g) w0 wr
section
variable {w0 wr : World} {g cap : Nat} {l : List Pr} {i k : Nat} {p q : Pr}
theorem Co.more (h : Co w0 wr g cap l (i + 1)) (hs : Sd l) (hp : l[i]? = some p) (hq : l[i + 1]? = some q) (hne : q.k ≠ p.k) {w2 : World} (t : Turn No wr w2) : Co w0 w2 g cap l (i + 1 + 1) := by
  obtain ⟨e1, e2⟩ := take_two hp hq
  refine ⟨h.hx.no t, ?_, h.tu.trans t⟩
  have hc := h.cp
  have hs2 := hs.sub (List.take_sublist (i + 1 + 1) l)
  rw [e1] at hc
  rw [e2] at hs2 ⊢
  exact hc.more hs2 hne
theorem Co.same (h : Co w0 wr g cap l (i + 1)) (hp : l[i]? = some p) (hq : l[i + 1]? = some q) (he : q.k = p.k) {w2 : World} (t : Turn No wr w2) : Ci w0 w2 g cap l (i + 1) (i + 1) := by
  obtain ⟨e1, e2⟩ := take_two hp hq
  have hi := (List.getElem?_eq_some_iff.1 hq).1
  refine ⟨⟨l.take (i + 1), [], ?_, by rw [List.length_take]; omega, by simp, ?_⟩, (h.tu.trans t).mono fun _ _ h => h.elim⟩
  · rw [List.append_nil, List.take_append_drop]; exact h.hx.no t
  · have hc := h.cp
    rw [e2]
    rw [e1] at hc ⊢
    exact hc.same he
theorem Ci.cells (h : Ci w0 wr g cap l i k) (hp : l[i]? = some p) (hq : l[i + 1]? = some q) : ∃ uk uv, ∀ w2, Turn No wr w2 →
    (w2.cell? ⟨g, (i + 1) * 2, none⟩ = some (.string q.k) ∧ w2.cell? ⟨g, (i + 1) * 2 + 1, none⟩ = some (.string q.v) ∧ w2.cell? ⟨g, i * 2, none⟩ = some (.string p.k) ∧ w2.cell? ⟨g, i * 2 + 1, none⟩ = some (.string p.v)) ∧
    w2.cell? ⟨g, k * 2, none⟩ = some (.string uk) ∧ w2.cell? ⟨g, k * 2 + 1, none⟩ = some (.string uv) ∧ ∀ q, w2.frozen? ⟨g, q, none⟩ = false := by
  obtain ⟨K, J, hx, hK, hJ, hc⟩ := h.ex
  have hl : (K ++ J).length = i := by rw [List.length_append]; omega
  have gp : (K ++ J ++ l.drop i)[i]? = some p := by
    rw [List.getElem?_append_right (by omega), hl, Nat.sub_self, List.getElem?_drop]
    simpa using hp
  have gq : (K ++ J ++ l.drop i)[i + 1]? = some q := by
    rw [List.getElem?_append_right (by omega), hl, List.getElem?_drop, show i + (i + 1 - i) = i + 1 by omega]
    exact hq
  obtain ⟨u, gu⟩ : ∃ u, (K ++ J ++ l.drop i)[k]? = some u := ⟨_, List.getElem?_eq_getElem (by have := (List.getElem?_eq_some_iff.1 gp).1; omega)⟩
  refine ⟨u.k, u.v, fun w2 t => ?_⟩
  have h2 := hx.no t
  exact ⟨⟨(h2.cells gq).1, (h2.cells gq).2, (h2.cells gp).1, (h2.cells gp).2⟩, (h2.cells gu).1, (h2.cells gu).2, h2.thawed⟩
theorem Ci.same (h : Ci w0 wr g cap l i k) (hp : l[i]? = some p) (hq : l[i + 1]? = some q) (he : q.k = p.k) {w2 : World} (t : Turn No wr w2) : Ci w0 w2 g cap l (i + 1) k := by
  obtain ⟨K, J, hx, hK, hJ, hc⟩ := h.ex
  obtain ⟨e1, e2⟩ := take_two hp hq
  refine ⟨⟨K, J ++ [p], ?_, hK, by simp; omega, ?_⟩, h.tu.then t fun _ _ h => h.elim⟩
  · have := hx.no t
    rw [drop_cons hp] at this
    simpa using this
  · rw [e2]
    rw [e1] at hc
    exact hc.same he
theorem Ci.more (h : Ci w0 wr g cap l i k) (hs : Sd l) (hp : l[i]? = some p) (hq : l[i + 1]? = some q) (hne : q.k ≠ p.k) {w2 : World} (t : Turn No wr w2) :
    Ci w0 ((w2.setCell ⟨g, k * 2, none⟩ (.string q.k)).setCell ⟨g, k * 2 + 1, none⟩ (.string q.v)) g cap l (i + 1) (k + 1) := by
  obtain ⟨K, J, hx, hK, hJ, hc⟩ := h.ex
  obtain ⟨e1, e2⟩ := take_two hp hq
  obtain ⟨y, J', hy⟩ : ∃ y J', J ++ [p] = y :: J' := by
    cases J with
    | nil => exact ⟨p, [], rfl⟩
    | cons y J' => exact ⟨y, J' ++ [p], rfl⟩
  have hyl := congrArg List.length hy
  simp only [List.length_append, List.length_cons, List.length_nil] at hyl
  have hx2 := (hx.no t).set k q
  rw [drop_cons hp] at hx2
  have e3 : K ++ J ++ p :: l.drop (i + 1) = K ++ y :: (J' ++ l.drop (i + 1)) := by
    have : K ++ J ++ p :: l.drop (i + 1) = K ++ ((J ++ [p]) ++ l.drop (i + 1)) := by simp
    rw [this, hy]; rfl
  rw [e3, List.set_append_right _ _ (by omega), show k - K.length = 0 by omega, List.set_cons_zero] at hx2
  refine ⟨⟨K ++ [q], J', by simpa using hx2, by simp [hK], by omega, ?_⟩, (h.tu.then t fun _ _ h => h.elim).trans ((Turn.set1 w2 g (k * 2) _).trans (Turn.set1 _ g (k * 2 + 1) _))⟩
  have hs2 := hs.sub (List.take_sublist (i + 1 + 1) l)
  rw [e2] at hs2 ⊢
  rw [e1] at hc
  exact hc.more hs2 hne
theorem Ci.fin (h : Ci w0 wr g cap l i k) {n : Nat} (hn : n = l.length) (hi : i + 1 = n) : ∃ w2, BRun1 .clear #[22] 0 (.slice (some ⟨g, k * 2, none⟩) (n - k) (cap - k)) (.tuple #[]) wr w2 ∧ k ≤ n ∧
    ∃ K, K.length = k ∧ Hx w2 g cap K ∧ Cpt K l ∧ Turn (fun k => k = g) w0 w2 := by
  obtain ⟨K, J, ⟨cur, hb, hsz, hft, hh⟩, hK, hJ, hc⟩ := h.ex
  have hll : (K ++ J ++ l.drop i).length = n := by simp only [List.length_append, List.length_drop]; omega
  obtain ⟨cs, hcs, hr⟩ := run_cl (cap := cap - k) hb (o := k * 2) (n := n - k) (by rw [hsz]; omega) (by omega) 0
  refine ⟨_, hr, by omega, K, hK, ⟨_, blk_setRow hb _, by rw [length_splice _ _ _ (by omega), hsz], by omega, ?_⟩, ?_, h.tu.trans (turn_setRow _ _ _)⟩
  · have hx : cur.take (K.length * 2) = pcs K := by
      have := congrArg (List.take (K.length * 2)) hh
      rw [List.take_take, Nat.min_eq_left (by omega), List.append_assoc, pcs_append, List.take_left' (pcs_length K)] at this
      exact this
    exact splice_keep hx (by omega) (by omega)
  · rw [List.take_of_length_le (by omega)] at hc
    exact hc
end
theorem cpt_few {l : List Pr} (h : l.length < 2) : Cpt l l := by
  match l, h with
  | [], _ => exact Cpt.nil
  | [p], _ => exact Cpt.start p

set_option maxHeartbeats 4000000 in
theorem comp30_any {w : World} {g cap : Nat} (l : List Pr) (h : Hx w g cap l) (hs : Sd l) (hc : cap ≤ maxLen) {n : Nat} (hl : n ≤ 100000) (hn : n = l.length) :
    Calls Try.prog 30 #[.slice (some ⟨g, 0, none⟩) n cap, .func (.func 31) #[] #[]] w fun e w' => ∃ K : List Pr, e = .returned (.slice (some ⟨g, 0, none⟩) K.length cap) ∧ Hx w' g cap K ∧ Cpt K l ∧ Turn (fun k => k = g) w w' := by
  have hfit := h.fits
  rw [← hn] at hfit
  have C31 := Lib.hid same31_any
  have HL := Lib.hid (And.intro hn (And.intro hs h))
  unfold maxLen at hc
  clear h hn hs
  by_cases h2 : n < 2
  · go_enter Try.func30, Try.ntmps30
    go_wp2_with fail
    go_ret
    exact ⟨l, by rw [HL.out.1]; rfl, HL.out.2.2, cpt_few (by have := HL.out.1; omega), Turn.refl _ _⟩
  · have H0 : Hid (Co w w g cap l 1) := Lib.hid ⟨HL.out.2.2, cpt_few (by rw [List.length_take]; omega), Turn.refl _ _⟩
    go_enter Try.func30, Try.ntmps30
    go_wp2_with fail
    go_loopw [5] (fun x wr => ∃ i : Nat, i + 1 ≤ n ∧ x = .int .i64 ((i : Int) + 1) ∧ Hid (Co w wr g cap l (i + 1))) (fun x _ => n - (RowKit.intOf x).toNat)
    case atStart => exact ⟨0, by omega, rfl, H0⟩
    case round =>
      obtain ⟨i, h1, rfl, HP⟩ := hrel
      clear H0
      by_cases hlt : i + 1 < n
      · obtain ⟨q, hq⟩ : ∃ q, l[i + 1]? = some q := ⟨l[i + 1]'(by have := HL.out.1; omega), List.getElem?_eq_getElem _⟩
        obtain ⟨p, hp⟩ : ∃ p, l[i]? = some p := ⟨l[i]'(by have := HL.out.1; omega), List.getElem?_eq_getElem _⟩
        obtain ⟨i1, hi1⟩ : ∃ i1, i + 1 = i1 := ⟨_, rfl⟩
        have q1 : (i : Int) + 1 = (i1 : Int) := by omega
        have q2 : (i1 : Int) - 1 = (i : Int) := by omega
        have q2a : IntKind.i64.wrap ((i1 : Int) - 1) = (i : Int) := by rw [IntKind.wrap_i64]; omega
        have q2b : IntKind.i64.wrap (i : Int) = (i : Int) := by rw [IntKind.wrap_i64]; omega
        have q3 : (0 : Int) ≤ (i : Int) := by omega
        have q4 : (i : Int) < (n : Int) := by omega
        have q5 : (0 : Int) ≤ (i1 : Int) := by omega
        have q6 : (i1 : Int) < (n : Int) := by omega
        have HE : Hid ((q.k ≠ p.k → ∀ w2, Turn No wr w2 → Co w w2 g cap l (i1 + 1)) ∧ (q.k = p.k → ∀ w2, Turn No wr w2 → Ci w w2 g cap l i1 i1)) := by subst hi1; exact Lib.hid ⟨fun hne w2 t => HP.out.more HL.out.2.1 hp hq hne t, fun he w2 t => HP.out.same hp hq he t⟩
        have HI := Lib.hid hi1
        have hq' : l[i1]? = some q := by rw [← hi1]; exact hq
        obtain ⟨qk, qv⟩ := q
        obtain ⟨pk, pv⟩ := p
        have HC : Hid (∀ w2, Turn No wr w2 → w2.cell? ⟨g, i1 * 2, none⟩ = some (.string qk) ∧ w2.cell? ⟨g, i1 * 2 + 1, none⟩ = some (.string qv) ∧ w2.cell? ⟨g, i * 2, none⟩ = some (.string pk) ∧ w2.cell? ⟨g, i * 2 + 1, none⟩ = some (.string pv)) := Lib.hid fun w2 t => ⟨((HP.out.hx.no t).cells hq').1, ((HP.out.hx.no t).cells hq').2, ((HP.out.hx.no t).cells hp).1, ((HP.out.hx.no t).cells hp).2⟩
        have b1 : i1 < n := by omega
        rw [q1]
        clear hq hp hq' hi1 HP q1 h1 hlt
        by_cases hk : qk = pk
        · have HE2 := Lib.hid (HE.out.2 hk)
          have hkd : decide (qk = pk) = true := decide_eq_true hk
          clear hk HE
          go_wp2_with fail
          have x0 := (HC.out wr (Turn.refl _ _)).1
          have x1 := (HC.out wr (Turn.refl _ _)).2.1
          have x2 := (HC.out wr (Turn.refl _ _)).2.2.1
          have x3 := (HC.out wr (Turn.refl _ _)).2.2.2
          have hS0 : wr.drew.cell? ⟨g, i1 * 2, none⟩ = some (.string qk) ∧ wr.drew.cell? ⟨g, i1 * 2 + 1, none⟩ = some (.string qv) ∧ wr.drew.cell? ⟨g, i * 2, none⟩ = some (.string pk) ∧ wr.drew.cell? ⟨g, i * 2 + 1, none⟩ = some (.string pv) := ⟨by simpa using x0, by simpa using x1, by simpa using x2, by simpa using x3⟩
          have hS1 : Hid (∀ w2, Turn No wr w2 → w2.cell? ⟨g, i1 * 2, none⟩ = some (.string qk) ∧ w2.cell? ⟨g, i1 * 2 + 1, none⟩ = some (.string qv) ∧ w2.cell? ⟨g, i * 2, none⟩ = some (.string pk) ∧ w2.cell? ⟨g, i * 2 + 1, none⟩ = some (.string pv)) := HC
          go_region_held3 (fun W => W.cell? ⟨g, i1 * 2, none⟩ = some (.string qk) ∧ W.cell? ⟨g, i1 * 2 + 1, none⟩ = some (.string qv) ∧ W.cell? ⟨g, i * 2, none⟩ = some (.string pk) ∧ W.cell? ⟨g, i * 2 + 1, none⟩ = some (.string pv)) (first | (with_reducible exact hS0) | (with_reducible exact hS1.out _ HT2.out)) (first | (go_at_call 31; (with_reducible refine (C31.out qk qv pk pv _).mono ?_); rintro e w2 ⟨rfl, ht⟩; have HT2 : Hid (Turn No wr w2) := Lib.hid (((Turn.refl No wr).drewN _).trans ht); clear ht))
          clear hS0 hS1 x0 x1 x2 x3
          have HJ := Lib.hid (HE2.out w2 HT2.out)
          clear HE2 HC
          go_wp2_with fail
          go_loopw [5, 7] (fun x y wr => ∃ k t : Nat, k ≤ i1 + t ∧ i1 + t + 1 ≤ n ∧ x = .int .i64 (k : Int) ∧ y = .int .i64 ((t : Int) + 1) ∧ Hid (Ci w wr g cap l (i1 + t) k)) (fun _ y _ => n - i1 - (RowKit.intOf y).toNat)
          case atStart => exact ⟨i1, 0, by omega, by omega, rfl, rfl, HJ⟩
          case round =>
            obtain ⟨k, t, h3, h4, rfl, rfl, HP⟩ := hrel
            clear HJ
            by_cases hlt : i1 + t + 1 < n
            · obtain ⟨q, hq⟩ : ∃ q, l[i1 + t + 1]? = some q := ⟨l[i1 + t + 1]'(by have := HL.out.1; omega), List.getElem?_eq_getElem _⟩
              obtain ⟨p, hp⟩ : ∃ p, l[i1 + t]? = some p := ⟨l[i1 + t]'(by have := HL.out.1; omega), List.getElem?_eq_getElem _⟩
              obtain ⟨t1, ht1⟩ : ∃ t1, t + 1 = t1 := ⟨_, rfl⟩
              obtain ⟨uk, uv, hcell⟩ := HP.out.cells hp hq
              have HE : Hid ((q.k = p.k → ∀ w2, Turn No wr w2 → Ci w w2 g cap l (i1 + t1) k) ∧ (q.k ≠ p.k → ∀ w2, Turn No wr w2 → Ci w ((w2.setCell ⟨g, k * 2, none⟩ (.string q.k)).setCell ⟨g, k * 2 + 1, none⟩ (.string q.v)) g cap l (i1 + t1) (k + 1))) := by subst ht1; exact Lib.hid ⟨fun he w2 t => HP.out.same hp hq he t, fun hne w2 t => HP.out.more HL.out.2.1 hp hq hne t⟩
              have q1 : (t : Int) + 1 = (t1 : Int) := by omega
              have q2 : (t1 : Int) - 1 = (t : Int) := by omega
              have q2a : IntKind.i64.wrap ((t1 : Int) - 1) = (t : Int) := by rw [IntKind.wrap_i64]; omega
              have q2b : IntKind.i64.wrap (t : Int) = (t : Int) := by rw [IntKind.wrap_i64]; omega
              have q3 : (0 : Int) ≤ (t : Int) := by omega
              have q4 : (t : Int) < (n : Int) - (i1 : Int) := by omega
              have q4b : (t : Int) < ((n - i1 : Nat) : Int) := by omega
              have q5 : (0 : Int) ≤ (t1 : Int) := by omega
              have q6 : (t1 : Int) < (n : Int) - (i1 : Int) := by omega
              have q6b : (t1 : Int) < ((n - i1 : Nat) : Int) := by omega
              have b2 : t1 < n - i1 := by omega
              have b3 : k < n := by omega
              obtain ⟨qk, qv⟩ := q
              obtain ⟨pk, pv⟩ := p
              have HC : Hid (∀ w2, Turn No wr w2 → w2.cell? ⟨g, i1 * 2 + t1 * 2, none⟩ = some (.string qk) ∧ w2.cell? ⟨g, i1 * 2 + t1 * 2 + 1, none⟩ = some (.string qv) ∧ w2.cell? ⟨g, i1 * 2 + t * 2, none⟩ = some (.string pk) ∧ w2.cell? ⟨g, i1 * 2 + t * 2 + 1, none⟩ = some (.string pv)) := Lib.hid fun w2 t0 => by
                have h := (hcell w2 t0).1
                rw [show i1 * 2 + t1 * 2 = (i1 + t + 1) * 2 by omega, show i1 * 2 + t * 2 = (i1 + t) * 2 by omega]
                exact h
              have HU : Hid (∀ w2, Turn No wr w2 → w2.cell? ⟨g, k * 2, none⟩ = some (.string uk) ∧ w2.cell? ⟨g, k * 2 + 1, none⟩ = some (.string uv) ∧ ∀ q, w2.frozen? ⟨g, q, none⟩ = false) := Lib.hid fun w2 t0 => (hcell w2 t0).2
              have HTT := Lib.hid ht1
              rw [q1]
              clear hq hp hcell ht1 q1 HP
              by_cases hk : qk = pk
              · have HE2 := Lib.hid (HE.out.1 hk)
                have hkd : decide (qk = pk) = true := decide_eq_true hk
                clear hk HE
                go_wp2_with fail
                have x0 := (HC.out wr (Turn.refl _ _)).1
                have x1 := (HC.out wr (Turn.refl _ _)).2.1
                have x2 := (HC.out wr (Turn.refl _ _)).2.2.1
                have x3 := (HC.out wr (Turn.refl _ _)).2.2.2
                have hS0 : wr.drew.cell? ⟨g, i1 * 2 + t1 * 2, none⟩ = some (.string qk) ∧ wr.drew.cell? ⟨g, i1 * 2 + t1 * 2 + 1, none⟩ = some (.string qv) ∧ wr.drew.cell? ⟨g, i1 * 2 + t * 2, none⟩ = some (.string pk) ∧ wr.drew.cell? ⟨g, i1 * 2 + t * 2 + 1, none⟩ = some (.string pv) := ⟨by simpa using x0, by simpa using x1, by simpa using x2, by simpa using x3⟩
                have hS1 : Hid (∀ w2, Turn No wr w2 → w2.cell? ⟨g, i1 * 2 + t1 * 2, none⟩ = some (.string qk) ∧ w2.cell? ⟨g, i1 * 2 + t1 * 2 + 1, none⟩ = some (.string qv) ∧ w2.cell? ⟨g, i1 * 2 + t * 2, none⟩ = some (.string pk) ∧ w2.cell? ⟨g, i1 * 2 + t * 2 + 1, none⟩ = some (.string pv)) := HC
                go_region_held3 (fun W => W.cell? ⟨g, i1 * 2 + t1 * 2, none⟩ = some (.string qk) ∧ W.cell? ⟨g, i1 * 2 + t1 * 2 + 1, none⟩ = some (.string qv) ∧ W.cell? ⟨g, i1 * 2 + t * 2, none⟩ = some (.string pk) ∧ W.cell? ⟨g, i1 * 2 + t * 2 + 1, none⟩ = some (.string pv)) (first | (with_reducible exact hS0) | (with_reducible exact hS1.out _ HT2.out)) (first | (go_at_call 31; (with_reducible refine (C31.out qk qv pk pv _).mono ?_); rintro e w2 ⟨rfl, ht⟩; have HT2 : Hid (Turn No wr w2) := Lib.hid (((Turn.refl No wr).drewN _).trans ht); clear ht))
                clear hS0 hS1 x0 x1 x2 x3
                go_wp2_with fail
                have := HTT.out
                exact ⟨⟨k, t1, by omega, by omega, rfl, by go_num, Lib.hid (HE2.out _ HT2.out)⟩, by simp [RowKit.intOf]; omega⟩
              · have HE2 := Lib.hid (HE.out.2 hk)
                have hkd : decide (qk = pk) = false := decide_eq_false hk
                clear hk HE
                go_wp2_with fail
                have x0 := (HC.out wr (Turn.refl _ _)).1
                have x1 := (HC.out wr (Turn.refl _ _)).2.1
                have x2 := (HC.out wr (Turn.refl _ _)).2.2.1
                have x3 := (HC.out wr (Turn.refl _ _)).2.2.2
                have hS0 : wr.drew.cell? ⟨g, i1 * 2 + t1 * 2, none⟩ = some (.string qk) ∧ wr.drew.cell? ⟨g, i1 * 2 + t1 * 2 + 1, none⟩ = some (.string qv) ∧ wr.drew.cell? ⟨g, i1 * 2 + t * 2, none⟩ = some (.string pk) ∧ wr.drew.cell? ⟨g, i1 * 2 + t * 2 + 1, none⟩ = some (.string pv) := ⟨by simpa using x0, by simpa using x1, by simpa using x2, by simpa using x3⟩
                have hS1 : Hid (∀ w2, Turn No wr w2 → w2.cell? ⟨g, i1 * 2 + t1 * 2, none⟩ = some (.string qk) ∧ w2.cell? ⟨g, i1 * 2 + t1 * 2 + 1, none⟩ = some (.string qv) ∧ w2.cell? ⟨g, i1 * 2 + t * 2, none⟩ = some (.string pk) ∧ w2.cell? ⟨g, i1 * 2 + t * 2 + 1, none⟩ = some (.string pv)) := HC
                go_region_held3 (fun W => W.cell? ⟨g, i1 * 2 + t1 * 2, none⟩ = some (.string qk) ∧ W.cell? ⟨g, i1 * 2 + t1 * 2 + 1, none⟩ = some (.string qv) ∧ W.cell? ⟨g, i1 * 2 + t * 2, none⟩ = some (.string pk) ∧ W.cell? ⟨g, i1 * 2 + t * 2 + 1, none⟩ = some (.string pv)) (first | (with_reducible exact hS0) | (with_reducible exact hS1.out _ HT2.out)) (first | (go_at_call 31; (with_reducible refine (C31.out qk qv pk pv _).mono ?_); rintro e w2 ⟨rfl, ht⟩; have HT2 : Hid (Turn No wr w2) := Lib.hid (((Turn.refl No wr).drewN _).trans ht); clear ht))
                clear hS0 hS1 x0 x1 x2 x3
                have y0 := (HU.out w2 HT2.out).1
                have y1 := (HU.out w2 HT2.out).2.1
                have e0 := (HU.out w2 HT2.out).2.2 (k * 2)
                have e1 := (HU.out w2 HT2.out).2.2 (k * 2 + 1)
                have z0 := (HC.out w2 HT2.out).1
                have z1 := (HC.out w2 HT2.out).2.1
                have HF := Lib.hid (HE2.out _ HT2.out)
                clear HE2 HU HC
                go_wp2_with fail
                have := HTT.out
                exact ⟨⟨k + 1, t1, by omega, by omega, by go_num, by go_num, HF⟩, by simp [RowKit.intOf]; omega⟩
            · obtain ⟨w5, hr5, hkn, hF⟩ := HP.out.fin HL.out.1 (by omega)
              have HF := Lib.hid hF
              have q1 : ¬ (t : Int) + 1 < (n : Int) - (i1 : Int) := by omega
              have q1b : ¬ (t : Int) + 1 < ((n - i1 : Nat) : Int) := by omega
              have b4 : k ≤ cap := by omega
              clear hF HP
              go_wp2_with (refine wpList_brun1 (by rfl) _ .clear _ (by rfl) _ _ (by rfl) hr5 ?_)
              go_ret
              obtain ⟨K, hK, a, b, c⟩ := HF.out
              subst hK
              exact ⟨K, rfl, a, b, c⟩
        · have HE2 := Lib.hid (HE.out.1 hk)
          have hkd : decide (qk = pk) = false := decide_eq_false hk
          clear hk HE
          go_wp2_with fail
          have x0 := (HC.out wr (Turn.refl _ _)).1
          have x1 := (HC.out wr (Turn.refl _ _)).2.1
          have x2 := (HC.out wr (Turn.refl _ _)).2.2.1
          have x3 := (HC.out wr (Turn.refl _ _)).2.2.2
          have hS0 : wr.drew.cell? ⟨g, i1 * 2, none⟩ = some (.string qk) ∧ wr.drew.cell? ⟨g, i1 * 2 + 1, none⟩ = some (.string qv) ∧ wr.drew.cell? ⟨g, i * 2, none⟩ = some (.string pk) ∧ wr.drew.cell? ⟨g, i * 2 + 1, none⟩ = some (.string pv) := ⟨by simpa using x0, by simpa using x1, by simpa using x2, by simpa using x3⟩
          have hS1 : Hid (∀ w2, Turn No wr w2 → w2.cell? ⟨g, i1 * 2, none⟩ = some (.string qk) ∧ w2.cell? ⟨g, i1 * 2 + 1, none⟩ = some (.string qv) ∧ w2.cell? ⟨g, i * 2, none⟩ = some (.string pk) ∧ w2.cell? ⟨g, i * 2 + 1, none⟩ = some (.string pv)) := HC
          go_region_held3 (fun W => W.cell? ⟨g, i1 * 2, none⟩ = some (.string qk) ∧ W.cell? ⟨g, i1 * 2 + 1, none⟩ = some (.string qv) ∧ W.cell? ⟨g, i * 2, none⟩ = some (.string pk) ∧ W.cell? ⟨g, i * 2 + 1, none⟩ = some (.string pv)) (first | (with_reducible exact hS0) | (with_reducible exact hS1.out _ HT2.out)) (first | (go_at_call 31; (with_reducible refine (C31.out qk qv pk pv _).mono ?_); rintro e w2 ⟨rfl, ht⟩; have HT2 : Hid (Turn No wr w2) := Lib.hid (((Turn.refl No wr).drewN _).trans ht); clear ht))
          clear hS0 hS1 x0 x1 x2 x3
          go_wp2_with fail
          have := HI.out
          exact ⟨⟨i1, by omega, by go_num, Lib.hid (HE2.out _ HT2.out)⟩, by simp [RowKit.intOf]; omega⟩
      · have hF : Hid (Cpt l l) := Lib.hid (by
          have := HP.out.cp
          rw [List.take_of_length_le (by have := HL.out.1; omega)] at this
          exact this)
        have q1 : ¬ (i : Int) + 1 < (n : Int) := by omega
        go_wp2_with fail
        go_ret
        exact ⟨l, by rw [HL.out.1]; rfl, HP.out.hx, hF.out, HP.out.tu.mono fun _ _ h => h.elim⟩
end Go.Proofs.Ytjjmooegpoeomaa
