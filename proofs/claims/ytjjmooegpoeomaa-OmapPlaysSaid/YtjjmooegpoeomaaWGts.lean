/-
  Great: what it lets by is small. Same: two rows of pairs held against each other.
-/
import Derived.Test.YtjjmooegpoeomaaArgs
namespace Go.Proofs.Ytjjmooegpoeomaa
open Go.RowKit Go.Lib
set_option linter.unusedVariables false
set_option linter.unusedSimpArgs false

theorem Pr.eq_iff {p q : Pr} : p = q ↔ p.k = q.k ∧ p.v = q.v := by
  cases p; cases q
  simp
instance : DecidableEq Pr := fun p q => decidable_of_iff _ Pr.eq_iff.symm
theorem ocs_length (l : List Opx) : (ocs l).length = l.length * 7 := flat_length _ 7 (fun _ => rfl) l
theorem ocs_at {l : List Opx} {j : Nat} {x : Opx} (h : l[j]? = some x) (i : Nat) (hi : i < 7) : (ocs l)[j * 7 + i]? = x.cs[i]? := flat_at _ 7 (fun _ => rfl) l j i x h hi
/-- One operation of a row that is read. -/
theorem Row.opx {w : World} {A : Option Addr} {l : List Opx} (h : Row w A (ocs l)) {j : Nat} {x : Opx} (hj : l[j]? = some x) :
    ∃ b o, A = some ⟨b, o, none⟩ ∧ b < w.heap.size ∧ ∀ i u, i < 7 → x.cs[i]? = some u → w.cell? ⟨b, o + j * 7 + i, none⟩ = some u := by
  obtain ⟨b, o, hA, hb, h0⟩ := h (j * 7 + 0) (.int .u8 x.kind) (by rw [ocs_at hj 0 (by decide)]; rfl)
  refine ⟨b, o, hA, hb, fun i u hi hu => ?_⟩
  obtain ⟨b', o', hA', _, h1⟩ := h (j * 7 + i) u (by rw [ocs_at hj i hi]; exact hu)
  rw [hA] at hA'
  injection hA' with hA'
  injection hA' with e1 e2
  subst e1 e2
  rw [Nat.add_assoc]
  exact h1
/-- All is few. -/
structure FewA (l : List Pr) (ops : List Opx) (ps : List (List Wr)) : Prop where
  nl : l.length ≤ 100
  no : ops.length ≤ 100
  p : ∀ x ∈ l, x.k.size ≤ 500 ∧ x.v.size ≤ 500
  w : ∀ (j : Nat) (x : Opx) (ws : List Wr), ops[j]? = some x → ps[j]? = some ws → Few x.k x.v x.o ws
theorem InW.no {w w' : World} {A : Option Addr} {len cap : Nat} {ws : List Wr} (h : InW w A len cap ws) (t : Turn No w w') : InW w' A len cap ws := ⟨h.hlen, h.hmax, h.row.turn t fun _ _ _ h => h, h.fit⟩
theorem InO.no {w w' : World} {x : Opx} {ws : List Wr} (h : InO w x ws) (t : Turn No w w') : InO w' x ws := ⟨h.row.no t, h.fit⟩
theorem few_take {l : List Pr} {j : Nat} {x : Pr} (hj : l[j]? = some x) (h : ∀ y ∈ l.take j, y.k.size ≤ 500 ∧ y.v.size ≤ 500) (hx : x.k.size ≤ 500 ∧ x.v.size ≤ 500) : ∀ y ∈ l.take (j + 1), y.k.size ≤ 500 ∧ y.v.size ≤ 500 := by
  intro y hy
  rw [List.take_add_one, hj] at hy
  rcases List.mem_append.1 hy with h1 | h1
  · exact h y h1
  · simp at h1
    subst h1
    exact hx
set_option maxHeartbeats 4000000 in
theorem great_any (A : Option Addr) (cap : Nat) (l : List Pr) (B : Option Addr) (cap2 : Nat) (ops : List Opx) (ps : List (List Wr)) (w : World) (hl : InP w A l.length cap l) (ho : InOs w B ops.length cap2 ops ps) :
    Calls Try.prog 9 #[.slice A l.length cap, .slice B ops.length cap2] w fun e w' => Grt (FewA l ops ps) e ∧ Turn No w w' := by
  have HR := Lib.hid (And.intro hl ho)
  have h1 := hl.hmax
  have h2 := ho.hmax
  unfold maxLen at h1 h2
  clear hl ho
  by_cases b1 : 100 < l.length
  · have b1' : (100 : Int) < (l.length : Int) := by omega
    clear b1
    go_enter Try.func9, Try.ntmps9
    go_wp2_with fail
    go_ret
    exact ⟨Grt.yes, Turn.refl _ _⟩
  · have b1' : ¬ (100 : Int) < (l.length : Int) := by omega
    by_cases b2 : 100 < ops.length
    · have b2' : (100 : Int) < (ops.length : Int) := by omega
      clear b1 b2
      go_enter Try.func9, Try.ntmps9
      go_wp2_with fail
      go_ret
      exact ⟨Grt.yes, Turn.refl _ _⟩
    · have b2' : ¬ (100 : Int) < (ops.length : Int) := by omega
      have HB : Hid (l.length ≤ 100 ∧ ops.length ≤ 100) := Lib.hid ⟨by omega, by omega⟩
      clear b1 b2
      go_enter Try.func9, Try.ntmps9
      go_wp2_with fail
      go_loopw [5] (fun i wr => ∃ kk : Nat, kk ≤ l.length ∧ i = .int .i64 (kk : Int) ∧ wr = w ∧ Hid (∀ y ∈ l.take kk, y.k.size ≤ 500 ∧ y.v.size ≤ 500)) (fun i _ => l.length - (RowKit.intOf i).toNat)
      case atStart => exact ⟨0, Nat.zero_le _, rfl, rfl, Lib.hid (by simp)⟩
      case round =>
        obtain ⟨kk, hm, rfl, rfl, HP⟩ := hrel
        by_cases hlt : kk < l.length
        · obtain ⟨x, hx⟩ : ∃ x, l[kk]? = some x := ⟨l[kk], List.getElem?_eq_getElem hlt⟩
          obtain ⟨b, off, hA, hb, x0, x1⟩ := HR.out.1.row.pair hx
          have hfx := HR.out.1.fit x (List.mem_of_getElem? hx)
          have HX := Lib.hid (few_take hx HP.out)
          obtain ⟨xk, xv⟩ := x
          unfold Fit at hfx
          obtain ⟨q1, q2⟩ := hfx
          simp only at x0 x1 q1 q2
          subst hA
          clear hb hx HP
          by_cases c1 : 500 < xk.size
          · have c1' : (500 : Int) < (xk.size : Int) := by omega
            clear c1 HX
            go_wp2_with fail
            go_ret
            exact ⟨Grt.yes, Turn.refl _ _⟩
          · have c1' : ¬ (500 : Int) < (xk.size : Int) := by omega
            by_cases c2 : 500 < xv.size
            · have c2' : (500 : Int) < (xv.size : Int) := by omega
              clear c1 c2 HX
              go_wp2_with fail
              go_ret
              exact ⟨Grt.yes, Turn.refl _ _⟩
            · have c2' : ¬ (500 : Int) < (xv.size : Int) := by omega
              have HN := Lib.hid (HX.out ⟨by show xk.size ≤ 500; omega, by show xv.size ≤ 500; omega⟩)
              clear c1 c2 HX
              go_wp2_with fail
              exact ⟨⟨kk + 1, by omega, by go_num, trivial, HN⟩, by simp [RowKit.intOf]; omega⟩
        · obtain rfl : kk = l.length := by omega
          have h0 := HP.out
          rw [List.take_length] at h0
          have H0 := Lib.hid h0
          clear h0 HP
          go_wp2_with fail
          go_loopw [6] (fun i wz => ∃ kk : Nat, kk ≤ ops.length ∧ i = .int .i64 (kk : Int) ∧ Hid (Turn No wr wz ∧ ∀ (j : Nat) (x : Opx) (ws : List Wr), j < kk → ops[j]? = some x → ps[j]? = some ws → Few x.k x.v x.o ws)) (fun i _ => ops.length - (RowKit.intOf i).toNat)
          case atStart => exact ⟨0, Nat.zero_le _, rfl, Lib.hid ⟨Turn.refl _ _, fun j x ws hj => by omega⟩⟩
          case round =>
            obtain ⟨kk, hm, rfl, HP⟩ := hrel
            by_cases hlt : kk < ops.length
            · obtain ⟨x, hx⟩ : ∃ x, ops[kk]? = some x := ⟨ops[kk], List.getElem?_eq_getElem hlt⟩
              obtain ⟨ws, hws⟩ : ∃ ws, ps[kk]? = some ws := ⟨ps[kk]'(by rw [HR.out.2.plen]; exact hlt), List.getElem?_eq_getElem _⟩
              have hin := (HR.out.2.get kk x ws hx hws).no HP.out.1
              obtain ⟨b, off, hB, hb, hcell⟩ := (HR.out.2.row.turn HP.out.1 fun _ _ _ h => h).opx hx
              have HXX := Lib.hid (And.intro hx hws)
              obtain ⟨kind, k, v, o, had, aft, A3, len3, cap3⟩ := x
              have hlen : ws.length = len3 := hin.row.hlen
              subst hlen
              have CG := Lib.hid (greatop_any kind k v o had aft A3 cap3 ws _ hin.row.row hin.fit.1 hin.fit.2.1 hin.fit.2.2 hin.row.fit hin.row.hmax)
              have x0 := hcell 0 _ (by decide) rfl
              have x1 := hcell 1 _ (by decide) rfl
              have x2 := hcell 2 _ (by decide) rfl
              have x3 := hcell 3 _ (by decide) rfl
              have x4 := hcell 4 _ (by decide) rfl
              have x5 := hcell 5 _ (by decide) rfl
              have x6 := hcell 6 _ (by decide) rfl
              simp only [Nat.add_zero] at x0 x1 x2 x3 x4 x5 x6
              subst hB
              clear hb hx hws hin hcell
              go_upto_if 47 with (go_at_call 21; refine CG.out.mono ?_; rintro e w2 ⟨⟨bv, rfl, hP⟩, ht⟩; have HG := Lib.hid hP; have HT := Lib.hid ht; clear hP ht)
              clear x0 x1 x2 x3 x4 x5 x6 CG
              cases bv with
              | true =>
                go_wp2_with fail
                go_ret
                exact ⟨Grt.yes, HP.out.1.trans HT.out⟩
              | false =>
                have hN : ∀ (j : Nat) (x : Opx) (ws : List Wr), j < kk + 1 → ops[j]? = some x → ps[j]? = some ws → Few x.k x.v x.o ws := fun j x ws2 hj h1 h2 => by
                  by_cases e : j < kk
                  · exact HP.out.2 j x ws2 e h1 h2
                  · obtain rfl : j = kk := by omega
                    have e1 := HXX.out.1.symm.trans h1
                    have e2 := HXX.out.2.symm.trans h2
                    injection e1 with e1
                    injection e2 with e2
                    subst e1 e2
                    exact HG.out rfl
                have HN := Lib.hid hN
                clear hN
                go_wp2_with fail
                exact ⟨⟨kk + 1, by omega, by go_num, Lib.hid ⟨HP.out.1.trans HT.out, HN.out⟩⟩, by simp [RowKit.intOf]; omega⟩
            · obtain rfl : kk = ops.length := by omega
              go_wp2_with fail
              go_ret
              exact ⟨Grt.no ⟨HB.out.1, HB.out.2, H0.out, fun j x ws h1 h2 => HP.out.2 j x ws (List.getElem?_eq_some_iff.1 h1).1 h1 h2⟩, HP.out.1⟩
set_option maxHeartbeats 2000000 in
theorem same_any (A : Option Addr) (cap : Nat) (l : List Pr) (B : Option Addr) (cap2 : Nat) (m : List Pr) (w : World) (hl : Row w A (pcs l)) (hm : Row w B (pcs m)) (hn : l.length ≤ 100000) :
    Calls Try.prog 13 #[.slice A l.length cap, .slice B m.length cap2] w fun e w' => e = .returned (.bool (decide (l = m))) ∧ Turn No w w' := by
  have HR := Lib.hid (And.intro hl hm)
  clear hl hm
  by_cases hne : l.length = m.length
  · obtain ⟨r, hr⟩ : ∃ r, decide (l = m) = r := ⟨_, rfl⟩
    have HQ := Lib.hid (And.intro hne hr)
    rw [hr]
    rw [← hne]
    clear hne hr
    go_enter Try.func13, Try.ntmps13
    go_wp2_with fail
    go_loopw [5] (fun i wr => ∃ kk : Nat, kk ≤ l.length ∧ i = .int .i64 (kk : Int) ∧ Hid (Turn No w wr ∧ l.take kk = m.take kk)) (fun i _ => l.length - (RowKit.intOf i).toNat)
    case atStart => exact ⟨0, Nat.zero_le _, rfl, Lib.hid ⟨Turn.refl _ _, by simp⟩⟩
    case round =>
      obtain ⟨kk, hk, rfl, HP⟩ := hrel
      by_cases hlt : kk < l.length
      · obtain ⟨x, hx⟩ : ∃ x, l[kk]? = some x := ⟨l[kk], List.getElem?_eq_getElem hlt⟩
        obtain ⟨y, hy⟩ : ∃ y, m[kk]? = some y := ⟨m[kk]'(by rw [← HQ.out.1]; exact hlt), List.getElem?_eq_getElem (by rw [← HQ.out.1]; exact hlt)⟩
        obtain ⟨b, off, hA, hb, x0, x1⟩ := (HR.out.1.turn HP.out.1 fun _ _ _ h => h).pair hx
        obtain ⟨b2, off2, hB, hb2, y0, y1⟩ := (HR.out.2.turn HP.out.1 fun _ _ _ h => h).pair hy
        have HX : Hid ((x = y → l.take (kk + 1) = m.take (kk + 1)) ∧ (x ≠ y → r = false)) := Lib.hid ⟨fun e => by subst e; rw [List.take_add_one, List.take_add_one, hx, hy, HP.out.2], fun e => by
          rw [← HQ.out.2]
          refine decide_eq_false fun h => e ?_
          rw [h, hy] at hx
          injection hx with hx
          exact hx.symm⟩
        have HT := Lib.hid HP.out.1
        obtain ⟨xk, xv⟩ := x
        obtain ⟨yk, yv⟩ := y
        simp only at x0 x1 y0 y1
        have qn := fun W => neq_pr xk yk xv yv W
        subst hA hB
        clear hb hb2 hx hy HP
        have hq1 : (0 : Int) ≤ (kk : Int) := by omega
        have hq2 : (kk : Int) < (l.length : Int) := by omega
        by_cases he : prEq xk yk xv yv = true
        · have HE := Lib.hid (HX.out.1 (prEq_iff (p := ⟨xk, xv⟩) (q := ⟨yk, yv⟩) |>.1 he))
          rw [he] at qn
          clear he HX
          go_wp2_with fail
          go_quiet (fail)
          all_goals go_wp2_with fail
          all_goals exact ⟨⟨kk + 1, by omega, by go_num, Lib.hid ⟨by first | exact HT.out.drewN _ | exact HT.out.drew, HE.out⟩⟩, by simp [RowKit.intOf]; omega⟩
        · have hr := HX.out.2 (fun e => he (prEq_iff (p := ⟨xk, xv⟩) (q := ⟨yk, yv⟩) |>.2 e))
          have hf : prEq xk yk xv yv = false := by simpa using he
          rw [hf] at qn
          subst hr
          clear he hf HX
          go_wp2_with fail
          go_quiet (fail)
          all_goals go_wp2_with fail
          all_goals go_ret
          all_goals exact ⟨rfl, by first | exact HT.out.drewN _ | exact HT.out.drew⟩
      · obtain rfl : kk = l.length := by omega
        have hr : r = true := by
          rw [← HQ.out.2]
          refine decide_eq_true ?_
          have := HP.out.2
          rw [List.take_length, List.take_of_length_le (by rw [HQ.out.1]; exact Nat.le_refl _)] at this
          exact this
        subst hr
        go_wp2_with fail
        go_ret
        exact ⟨rfl, HP.out.1⟩
  · have hd : decide (l = m) = false := decide_eq_false fun e => hne (by rw [e])
    have hne' : ¬ (l.length : Int) = (m.length : Int) := by omega
    rw [hd]
    clear hd hne
    go_enter Try.func13, Try.ntmps13
    go_wp2_with fail
    go_ret
    exact ⟨rfl, Turn.refl _ _⟩
end Go.Proofs.Ytjjmooegpoeomaa
