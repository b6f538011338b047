/-
  What Pin of the document's epoch comes to.
-/
import Derived.Test.YthohhehelnkpgaaDc
namespace Go.Proofs.Ythohhehelnkpgaa
open Go.RowKit Go.Maps Go.IntWalk Go.Lib
set_option linter.unusedVariables false
section
variable {Z qb : Nat} {av : Option Nat} {w w' : World} {E : Ab} {pv_ lv : Value} {ws : List Value} {t : Int}

/-- The three appends of a Pin. -/
structure PinRuns (w : World) (t : Int) (g n cap j : Nat) (T : List Int) (qb : Nat) (A1 : Option Addr) (c1 : Nat) (w1 : World) (A2 : Option Addr) (c2 : Nat) (w2 : World) (A3 : Option Addr) (c3 : Nat) (w3 : World) : Prop where
  r1 : AppRun 27 27 (.slice none 0 0) (.slice (some ⟨g, 0, none⟩) j cap) (.slice A1 j c1) w w1
  r2 : AppRun 27 27 (.slice A1 j c1) (.slice (some ⟨w1.heap.size, 0, none⟩) 1 1) (.slice A2 (j + 1) c2) (w1.alloc (.cells #[.int .i64 t] 3)) w2
  r3 : ∀ A, (j < n → A = some ⟨g, j, none⟩) → AppRun 27 27 (.slice A2 (j + 1) c2) (.slice A (n - j) (cap - j)) (.slice A3 (n + 1) c3) w2 w3
  t1 : Turn (fun _ => False) w w1
  t2 : Turn (fun _ => False) w w2
  t3 : Turn (fun _ => False) w w3
  num : Nums w.heap.size w3 (.slice A3 (n + 1) c3) (T.take j ++ t :: T.drop j)

theorem pin_runs {g n cap j : Nat} {T : List Int} (h : Nums Z w (.slice (some ⟨g, 0, none⟩) n cap) T) (hn : n = T.length) (hj : j ≤ n) (t : Int) (hs : n ≤ 100000) (qb : Nat) :
    ∃ A1 c1 w1 A2 c2 w2 A3 c3 w3, PinRuns w t g n cap j T qb A1 c1 w1 A2 c2 w2 A3 c3 w3 := by
  obtain ⟨A1, c1, w1, q1, n1, t1⟩ := append_part (Nums.nil w.heap.size w) h 0 j cap (by omega) (by simp; omega) (Nat.le_refl _) 27
  simp only [List.length_nil, Nat.zero_add, List.nil_append, List.drop_zero] at q1 n1
  have u1 := Tno t1
  have ta : Turn (fun _ => False) w1 (w1.alloc (.cells #[.int .i64 t] 3)) := (Turn.refl _ w1).alloc _
  have hlt : (T.take j).length = j := by rw [List.length_take]; omega
  obtain ⟨A2, c2, w2, q2, n2, t2⟩ := (n1.same ta).append ⟨w1.heap.size, 0, none⟩ 1 1 [t] rfl (fun i y hy => by
    rw [Addr.add_lit, (At.new w1 _).cell]
    rcases i with _ | i
    · simp at hy; subst hy; rfl
    · simp at hy) (by omega) (Nat.le_trans u1.size ta.size) 27
  rw [hlt] at q2 n2
  have u2 := Tnew (n1.same ta) (u1.trans ta) t2
  have hl2 : (T.take j ++ [t]).length = j + 1 := by rw [List.length_append, hlt]; rfl
  by_cases he : j = n
  · subst he
    refine ⟨A1, c1, w1, A2, c2, w2, A2, c2, w2, ⟨⟨q1⟩, ⟨q2⟩, fun A _ => ⟨?_⟩, u1, u2, u2, ?_⟩⟩
    · rw [Nat.sub_self]
      exact append_nothing _ n2 A (cap - j) 27
    · have e1 : T.drop j = [] := List.drop_eq_nil_of_le (by omega)
      rw [e1]
      exact n2
  · obtain ⟨A3, c3, w3, q3, n3, t3⟩ := append_part n2 (h.same u2) j (n - j) (cap - j) (by omega) (by omega) u2.size 27
    rw [hl2, show j + 1 + (n - j) = n + 1 by omega] at q3 n3
    refine ⟨A1, c1, w1, A2, c2, w2, A3, c3, w3, ⟨⟨q1⟩, ⟨q2⟩, fun A hA => ?_, u1, u2, Tnew n2 u2 t3, ?_⟩⟩
    · rw [hA (by omega)]; exact ⟨q3⟩
    · have e1 : (T.drop j).take (n - j) = T.drop j := List.take_of_length_le (by rw [List.length_drop]; omega)
      rw [e1, List.append_assoc] at n3
      exact n3

set_option maxRecDepth 100000 in
set_option maxHeartbeats 4000000 in
theorem rpin_some {g n cap : Nat} (h : DcAt Z w qb av E (.slice (some ⟨g, 0, none⟩) n cap) lv ws) (h1 : -9223372036854775808 ≤ t) (h2 : t ≤ 9223372036854775807) (hP : E.P.length < 100000) (hl : look E.P t = none) (hm : ¬ t ∈ E.tasks) (hn : n = E.tasks.length) (hc : n ≤ cap) (ha : ∀ i, av = some i → i < w.heap.size) :
    Calls Try.prog 19 #[.pointer (some ⟨qb, 0, none⟩), .int .i64 t] w fun e w' => e = .returned (.bool true) ∧ Dc Z w' qb av (E.pin t) ∧ Tr Ro Z w w' := by
  have hTl : n ≤ 100000 := by rw [hn]; unfold Ab.tasks; rw [List.length_map]; exact h.wf.small.1
  have HH := has_any h.pins t (by omega)
  rw [decide_eq_false hm] at HH
  replace HH := Lib.hid HH
  have c0 := h.cells.1
  have z0 := h.at_.thawed 0
  have lq := h.lt
  have HD := Lib.hid (And.intro h (And.intro hl ha))
  obtain ⟨T, hT⟩ : ∃ T, T = E.tasks := ⟨_, rfl⟩
  have HN : Hid (Nums Z w (.slice (some ⟨g, 0, none⟩) n cap) T) := by
    rw [hT]; exact Lib.hid h.pins
  have HL : Hid (n = T.length) := by rw [hT]; exact Lib.hid hn
  have HT := Lib.hid hT
  clear h ha hl hm hn hT
  go_enter Try.func19, Try.ntmps19
  go_wp2_with fail
  refine HH.out.mono ?_
  rintro e w1 ⟨rfl, hq⟩
  have hq := hq.symm
  subst hq
  clear HH
  go_wp2_with fail
  go_loopw [5] (fun i wz => ∃ j : Nat, j ≤ n ∧ i = .int .i64 (j : Int) ∧ w = wz ∧ Hid (∀ x ∈ T.take j, x < t)) (fun i _ => n - (intOf i).toNat)
  case atStart => exact ⟨0, Nat.zero_le _, rfl, rfl, Lib.hid (by simp)⟩
  case round =>
    obtain ⟨j, hj, rfl, hw, hno⟩ := hrel
    subst hw
    have j0 : (0 : Int) ≤ (j : Int) := by omega
    have jn : (j : Int) ≤ (n : Int) := by omega
    have jc : (j : Int) ≤ (cap : Int) := by omega
    by_cases hlt : j < n
    · have b1 : (j : Int) < (n : Int) := by omega
      obtain ⟨g', x, hA, hx, _, _, hgl, hcell⟩ := HN.out.at (j := j) (by rw [← HL.out]; exact hlt)
      obtain rfl : g = g' := by injection hA with h; injection h
      clear hA
      have HX := Lib.hid hx
      clear hx
      by_cases hxt : x < t
      · have e1 : decide (x < t) = true := by simpa using hxt
        have hnx : Hid (∀ y ∈ T.take (j + 1), y < t) := Lib.hid fun y hy => by
          rw [List.take_add_one, HX.out] at hy
          rcases List.mem_append.1 hy with h | h
          · exact hno.out y h
          · simp at h; rw [h]; exact hxt
        go_wp2_with fail
        go_roundw
        case rel => exact ⟨j + 1, by omega, by go_num, trivial, hnx⟩
        case measure => simp [intOf]; omega
      · have e1 : decide (x < t) = false := by simpa using hxt
        have hsp := Lib.hid (lt1_spec t T j (by rw [← HL.out]; omega) hno.out (fun y hy => by rw [HX.out] at hy; injection hy with hy; rw [← hy]; exact hxt))
        obtain ⟨A1, c1, wa, A2, c2, wb, A3, c3, wc, hR⟩ := pin_runs HN.out HL.out hj t hTl qb
        have HR1 := hR.r1
        have HR2 := hR.r2
        have HR3 := hR.r3 (some ⟨g, j, none⟩) (fun _ => rfl)
        have s1 := (HD.out.1.same hR.t1)
        have s2 := (HD.out.1.same hR.t2)
        have s3 := (HD.out.1.same hR.t3)
        have d1 := s1.cells.1
        have d2 := s2.cells.1
        have d3 := s3.cells.1
        have z3 := s3.at_.thawed 0
        have HP := HD.out.1.pinned h1 h2 hP HD.out.2.1 hR.t3 (v := .slice A3 (n + 1) c3) (by rw [← HT.out, hsp.out]; exact hR.num) HD.out.2.2
        replace HP := Lib.hid HP
        clear hR s1 s2 s3 hxt
        go_wp2_with (first | (at_builtin; refine wpList_append_hid rfl _ _ 27 rfl _ _ _ rfl rfl HR1 ?_) | (at_builtin; refine wpList_append_hid rfl _ _ 27 rfl _ _ _ rfl rfl HR2 ?_) | (at_builtin; refine wpList_append_hid rfl _ _ 27 rfl _ _ _ rfl rfl HR3 ?_))
        go_ret
        exact ⟨rfl, HP.out⟩
    · have b1 : ¬ (j : Int) < (n : Int) := by omega
      obtain rfl : j = n := by omega
      have hsp := Lib.hid (lt1_spec t T j (by rw [← HL.out]; omega) hno.out (fun y hy => by
        have := (List.getElem?_eq_some_iff.1 hy).1
        rw [← HL.out] at this; omega))
      obtain ⟨A1, c1, wa, A2, c2, wb, A3, c3, wc, hR⟩ := pin_runs HN.out HL.out hj t hTl qb
      have HR1 := hR.r1
      have HR2 := hR.r2
      have HR3 : ∀ A, AppRun 27 27 (.slice A2 (j + 1) c2) (.slice A 0 (cap - j)) (.slice A3 (j + 1) c3) wb wc := fun A => by
        have := hR.r3 A (fun h => by omega)
        rwa [Nat.sub_self] at this
      have s1 := (HD.out.1.same hR.t1)
      have s2 := (HD.out.1.same hR.t2)
      have s3 := (HD.out.1.same hR.t3)
      have d1 := s1.cells.1
      have d2 := s2.cells.1
      have d3 := s3.cells.1
      have z3 := s3.at_.thawed 0
      have HP := HD.out.1.pinned h1 h2 hP HD.out.2.1 hR.t3 (v := .slice A3 (j + 1) c3) (by rw [← HT.out, hsp.out]; exact hR.num) HD.out.2.2
      replace HP := Lib.hid HP
      clear hR s1 s2 s3
      go_wp2_with (first | (at_builtin; refine wpList_append_hid rfl _ _ 27 rfl _ _ _ rfl rfl HR1 ?_) | (at_builtin; refine wpList_append_hid rfl _ _ 27 rfl _ _ _ rfl rfl HR2 ?_) | (at_builtin; refine wpList_append_hid rfl _ _ 27 rfl _ _ _ rfl rfl (HR3 _) ?_))
      all_goals
        go_ret
        exact ⟨rfl, HP.out⟩

/-- Pin, whatever task. -/
theorem rpin_any (h : Dc Z w qb av E) (h1 : -9223372036854775808 ≤ t) (h2 : t ≤ 9223372036854775807) (hP : E.P.length < 100000) (ha : ∀ i, av = some i → i < w.heap.size) :
    Calls Try.prog 19 #[.pointer (some ⟨qb, 0, none⟩), .int .i64 t] w fun e w' => e = .returned (.bool (!(look E.P t).isSome)) ∧ Dc Z w' qb av (E.pin t) ∧ Tr Ro Z w w' := by
  obtain ⟨p, l, ws, hd⟩ := h
  have hmt := mem_tasks hd.wf t
  have hpv : (pv E.P t).isSome = (look E.P t).isSome := by unfold pv; rw [Option.isSome_map]
  rw [hpv] at hmt
  cases hl : look E.P t with
  | some k =>
    refine (rpin_no ⟨p, l, ws, hd⟩ (hmt.2 (by rw [hl]; rfl))).mono ?_
    rintro e w' ⟨rfl, rfl⟩
    refine ⟨rfl, ?_, Tr.refl _ _ _⟩
    unfold Ab.pin
    rw [hl]
    exact ⟨p, l, ws, hd⟩
  | none =>
    have hm : ¬ t ∈ E.tasks := fun h => by have := hmt.1 h; rw [hl] at this; cases this
    rcases hd.pins.2 with ⟨rfl, h0⟩ | ⟨g, cap, cur, rfl, hb, hg, hle, _⟩
    · exact rpin_nil hd h1 h2 hP hl (List.length_eq_zero_iff.1 h0) rfl ha
    · exact rpin_some hd h1 h2 hP hl hm rfl hle ha
end
end Go.Proofs.Ythohhehelnkpgaa
