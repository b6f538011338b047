/-
  New of a row of pairs.
  Great: what it lets by is small. Same: two rows of pairs held against each other.
  OmapNobody: a nil map answers as an empty one.
  One map, or two, that are new since the law began; what each call makes of them.
  What an operation touches, and what it looks at: plain facts. names, shares.
  shares: do two operations name a key, both?
  OmapApart: what an operation doesn't name is as it was; two that name no key, both, may be done in either row.
-/
import Derived.Test.YtllppkfeiifklaaJ11
import Derived.Test.YtllppkfeiifklaaJ15
import Derived.Test.YtllppkfeiifklaaJ9
namespace Go.Proofs.Ytllppkfeiifklaa
open Go.RowKit Go.Lib
set_option linter.unusedVariables false
set_option maxRecDepth 20000
set_option linter.unusedSimpArgs false

theorem Hx.row {w : World} {g cap : Nat} {l : List Pr} (h : Hx w g cap l) (hc : cap ≤ maxLen) : Row w (some ⟨g, 0, none⟩) (pcs l) := by
  obtain ⟨cur, hd⟩ := h
  exact row_of_own (hd.own (Z := 0) (Nat.zero_le _) hc)
theorem news_length (l : List Pr) : (news l).length ≤ l.length := by
  have : ∀ (l m : List Pr), (l.foldl (fun m p => putL m p.k p.v) m).length ≤ m.length + l.length := by
    intro l
    induction l with
    | nil => intro m; simp
    | cons p t ih =>
      intro m
      rw [List.foldl_cons]
      have h1 := ih (putL m p.k p.v)
      have h2 := put_length m p.k p.v
      rw [List.length_cons]
      omega
  have := this l []
  simpa [news] using this
set_option maxHeartbeats 2000000 in
theorem new_some (l : List Pr) (a : Addr) (cap : Nat) (w : World) {Z : Nat} (hZ : Z ≤ w.heap.size) (h : Row w (some a) (pcs l)) (hf : ∀ p ∈ l, Fit p.k ∧ Fit p.v) (hl : l.length ≤ 30000) :
    Calls Try.prog 28 #[.slice (some a) l.length cap] w fun e w' => ∃ mb rb, e = .returned (.pointer (some ⟨mb, 0, none⟩)) ∧ Om w' Z mb (some rb) (news l) ∧ w.heap.size ≤ mb ∧ w.heap.size ≤ rb ∧ Turn No w w' := by
  have C1 := Lib.hid (clone25_any l a cap w h (by omega))
  have C2 := Lib.hid fun (w1 : World) (g c : Nat) (hx : Hx w1 g c l) => rev26_any l hx (n := l.length) (by omega) rfl
  have C3 := Lib.hid fun (w1 : World) (g c : Nat) (hc : c ≤ maxLen) (hx : Hx w1 g c l.reverse) => stab27_any l.reverse hx hc (n := l.length) (by omega) (by simp)
  have C4 := Lib.hid fun (w1 : World) (g c : Nat) (hc : c ≤ maxLen) (S : List Pr) (hs : Sd S) (hn : l.length = S.length) (hx : Hx w1 g c S) => comp30_any S hx hs hc (n := l.length) (by omega) hn
  have C5 := Lib.hid fun (w1 : World) (g c : Nat) (hx : Row w1 (some ⟨g, 0, none⟩) (pcs (news l))) => clonePairs_any (news l) (some ⟨g, 0, none⟩) c w1 hx (fun p hp => hf p (news_sub p hp)) (by have := news_length l; omega)
  have HL := Lib.hid (And.intro hf (And.intro hl hZ))
  clear h hf
  go_enter Try.func28, Try.ntmps28
  go_upto_region 2 with (go_at_call 56; refine C1.out.mono ?_; rintro e w1 ⟨g, c, rfl, hx, hc, hg, ht⟩; have H1 := Lib.hid (And.intro hx (And.intro hc (And.intro hg ht))); clear hx hc hg ht)
  have C2a := Lib.hid (C2.out w1 g c H1.out.1)
  clear C1 C2
  go_upto_region 3 with (go_at_call 57; refine C2a.out.mono ?_; rintro e w2 ⟨rfl, hx, ht⟩; have H2 := Lib.hid (And.intro hx ht); clear hx ht)
  have C3a := Lib.hid (C3.out w2 g c H1.out.2.1 H2.out.1)
  clear C2a C3
  go_upto_region 4 with (go_at_call 58; refine C3a.out.mono ?_; rintro e w3 ⟨rfl, hx, ht⟩; have H3 := Lib.hid (And.intro hx ht); clear hx ht)
  obtain ⟨S, hx3, hs3, hm3⟩ := H3.out.1
  rw [List.nil_append, List.append_nil] at hx3
  have C4a := Lib.hid (C4.out w3 g c H1.out.2.1 S hs3 (by rw [hm3.len, List.length_reverse]) hx3)
  have HM := Lib.hid hm3
  clear C3a C4 hx3 hs3 hm3
  go_upto_region 5 with (go_at_call 61; refine C4a.out.mono ?_; rintro e w4 ⟨K, rfl, hx, hk, ht⟩; have H4 := Lib.hid (And.intro hx (And.intro hk ht)); clear hx hk ht)
  have hK : K = news l := news_of HM.out H4.out.2.1
  have C5a := Lib.hid (C5.out w4 g c (by rw [← hK]; exact H4.out.1.row H1.out.2.1))
  have HT : Hid (Turn No w w4) := Lib.hid (H1.out.2.2.2.then ((H2.out.2.trans H3.out.2).trans H4.out.2.2) (fun i hi e => by have := H1.out.2.2.1; omega))
  rw [hK]
  have HN := Lib.hid (news_length l)
  obtain ⟨N, hN⟩ : ∃ N, news l = N := ⟨_, rfl⟩
  rw [hN] at C5a HN ⊢
  have HA := Lib.hid (hN ▸ asc_news l : Asc N)
  have HF : Hid (∀ p ∈ N, Fit p.k ∧ Fit p.v) := Lib.hid (hN ▸ fun p hp => HL.out.1 p (news_sub p hp))
  have HEQ := Lib.hid hN
  clear C4a C5 H1 H2 H3 H4 HM hK hN
  go_wp2_with (go_at_call 63; refine C5a.out.mono ?_; rintro e w5 ⟨B, rfl, ho, ht⟩)
  go_ret
  have hlt := ho.lt B rfl
  have hsz := (HT.out.trans ht).size
  rw [HEQ.out]
  refine ⟨_, B, rfl, ⟨⟨some ⟨B, 0, none⟩, N.length, At.new _ _, ?_, rfl⟩, HA.out, by have := HN.out; have := HL.out.2.1; omega, HF.out, Nat.le_trans HL.out.2.2 hsz⟩, hsz, Nat.le_trans HT.out.size hlt.1, (HT.out.trans ht).alloc _⟩
  exact ((ho.alloc _).mono (Nat.le_trans HL.out.2.2 HT.out.size) : _)
/-- New. -/
theorem new_any (l : List Pr) (A : Option Addr) (cap : Nat) (w : World) {Z : Nat} (hZ : Z ≤ w.heap.size) (h : Row w A (pcs l)) (hA : A = none → cap = 0) (hf : ∀ p ∈ l, Fit p.k ∧ Fit p.v) (hl : l.length ≤ 30000) :
    Calls Try.prog 28 #[.slice A l.length cap] w fun e w' => ∃ mb rb, e = .returned (.pointer (some ⟨mb, 0, none⟩)) ∧ Om w' Z mb (some rb) (news l) ∧ w.heap.size ≤ mb ∧ w.heap.size ≤ rb ∧ Turn No w w' := by
  cases A with
  | some a => exact new_some l a cap w hZ h hf hl
  | none =>
    have hc := hA rfl
    subst hc
    have : l = [] := by
      cases l with
      | nil => rfl
      | cons p t =>
        obtain ⟨b, o, hA, _⟩ := h 0 (.string p.k) rfl
        cases hA
    subst this
    exact new_nil w hZ
end Go.Proofs.Ytllppkfeiifklaa
namespace Go.Proofs.Ytllppkfeiifklaa
open Go.RowKit Go.Lib
set_option linter.unusedVariables false
set_option maxRecDepth 20000
set_option linter.unusedSimpArgs false

theorem Pr.eq_iff {p q : Pr} : p = q ↔ p.k = q.k ∧ p.v = q.v := by
  cases p; cases q
  simp
instance : DecidableEq Pr := fun p q => decidable_of_iff _ Pr.eq_iff.symm
theorem ocs_length (l : List Opx) : (ocs l).length = l.length * 7 := flat_length _ 7 (fun _ => rfl) l
theorem ocs_at {l : List Opx} {j : Nat} {x : Opx} (h : l[j]? = some x) (i : Nat) (hi : i < 7) : (ocs l)[j * 7 + i]? = x.cs[i]? := flat_at _ 7 (fun _ => rfl) l j i x h hi
/-- One operation of a row that is read. -/
theorem Row.opx {w : World} {A : Option Addr} {l : List Opx} (h : Row w A (ocs l)) {j : Nat} {x : Opx} (hj : l[j]? = some x) :
    ∃ b o, A = some ⟨b, o, none⟩ ∧ b < w.heap.size ∧ ∀ i u, i < 7 → x.cs[i]? = some u → w.cell? ⟨b, o + j * 7 + i, none⟩ = some u := by
  obtain ⟨b, o, hA, hb, h0⟩ := h (j * 7 + 0) (.int .u8 x.kind) (by rw [ocs_at hj 0 (by decide)]; rfl)
  refine ⟨b, o, hA, hb, fun i u hi hu => ?_⟩
  obtain ⟨b', o', hA', _, h1⟩ := h (j * 7 + i) u (by rw [ocs_at hj i hi]; exact hu)
  rw [hA] at hA'
  injection hA' with hA'
  injection hA' with e1 e2
  subst e1 e2
  rw [Nat.add_assoc]
  exact h1
/-- All is few. -/
structure FewA (l : List Pr) (ops : List Opx) (ps : List (List Wr)) : Prop where
  nl : l.length ≤ 100
  no : ops.length ≤ 100
  p : ∀ x ∈ l, x.k.size ≤ 500 ∧ x.v.size ≤ 500
  w : ∀ (j : Nat) (x : Opx) (ws : List Wr), ops[j]? = some x → ps[j]? = some ws → Few x.k x.v x.o ws
theorem InW.no {w w' : World} {A : Option Addr} {len cap : Nat} {ws : List Wr} (h : InW w A len cap ws) (t : Turn No w w') : InW w' A len cap ws := ⟨h.hlen, h.hmax, h.row.turn t fun _ _ _ h => h, h.fit⟩
theorem InO.no {w w' : World} {x : Opx} {ws : List Wr} (h : InO w x ws) (t : Turn No w w') : InO w' x ws := ⟨h.row.no t, h.fit⟩
theorem few_take {l : List Pr} {j : Nat} {x : Pr} (hj : l[j]? = some x) (h : ∀ y ∈ l.take j, y.k.size ≤ 500 ∧ y.v.size ≤ 500) (hx : x.k.size ≤ 500 ∧ x.v.size ≤ 500) : ∀ y ∈ l.take (j + 1), y.k.size ≤ 500 ∧ y.v.size ≤ 500 := by
  intro y hy
  rw [List.take_add_one, hj] at hy
  rcases List.mem_append.1 hy with h1 | h1
  · exact h y h1
  · simp at h1
    subst h1
    exact hx
set_option maxHeartbeats 4000000 in
theorem great_any (A : Option Addr) (cap : Nat) (l : List Pr) (B : Option Addr) (cap2 : Nat) (ops : List Opx) (ps : List (List Wr)) (w : World) (hl : InP w A l.length cap l) (ho : InOs w B ops.length cap2 ops ps) :
    Calls Try.prog 25 #[.slice A l.length cap, .slice B ops.length cap2] w fun e w' => Grt (FewA l ops ps) e ∧ Turn No w w' := by
  have HR := Lib.hid (And.intro hl ho)
  have h1 := hl.hmax
  have h2 := ho.hmax
  unfold maxLen at h1 h2
  clear hl ho
  by_cases b1 : 100 < l.length
  · have b1' : (100 : Int) < (l.length : Int) := by omega
    clear b1
    go_enter Try.func25, Try.ntmps25
    go_wp2_with fail
    go_ret
    exact ⟨Grt.yes, Turn.refl _ _⟩
  · have b1' : ¬ (100 : Int) < (l.length : Int) := by omega
    by_cases b2 : 100 < ops.length
    · have b2' : (100 : Int) < (ops.length : Int) := by omega
      clear b1 b2
      go_enter Try.func25, Try.ntmps25
      go_wp2_with fail
      go_ret
      exact ⟨Grt.yes, Turn.refl _ _⟩
    · have b2' : ¬ (100 : Int) < (ops.length : Int) := by omega
      have HB : Hid (l.length ≤ 100 ∧ ops.length ≤ 100) := Lib.hid ⟨by omega, by omega⟩
      clear b1 b2
      go_enter Try.func25, Try.ntmps25
      go_wp2_with fail
      go_loopw [5] (fun i wr => ∃ kk : Nat, kk ≤ l.length ∧ i = .int .i64 (kk : Int) ∧ wr = w ∧ Hid (∀ y ∈ l.take kk, y.k.size ≤ 500 ∧ y.v.size ≤ 500)) (fun i _ => l.length - (RowKit.intOf i).toNat)
      case atStart => exact ⟨0, Nat.zero_le _, rfl, rfl, Lib.hid (by simp)⟩
      case round =>
        obtain ⟨kk, hm, rfl, rfl, HP⟩ := hrel
        by_cases hlt : kk < l.length
        · obtain ⟨x, hx⟩ : ∃ x, l[kk]? = some x := ⟨l[kk], List.getElem?_eq_getElem hlt⟩
          obtain ⟨b, off, hA, hb, x0, x1⟩ := HR.out.1.row.pair hx
          have hfx := HR.out.1.fit x (List.mem_of_getElem? hx)
          have HX := Lib.hid (few_take hx HP.out)
          obtain ⟨xk, xv⟩ := x
          unfold Fit at hfx
          obtain ⟨q1, q2⟩ := hfx
          simp only at x0 x1 q1 q2
          subst hA
          clear hb hx HP
          by_cases c1 : 500 < xk.size
          · have c1' : (500 : Int) < (xk.size : Int) := by omega
            clear c1 HX
            go_wp2_with fail
            go_ret
            exact ⟨Grt.yes, Turn.refl _ _⟩
          · have c1' : ¬ (500 : Int) < (xk.size : Int) := by omega
            by_cases c2 : 500 < xv.size
            · have c2' : (500 : Int) < (xv.size : Int) := by omega
              clear c1 c2 HX
              go_wp2_with fail
              go_ret
              exact ⟨Grt.yes, Turn.refl _ _⟩
            · have c2' : ¬ (500 : Int) < (xv.size : Int) := by omega
              have HN := Lib.hid (HX.out ⟨by show xk.size ≤ 500; omega, by show xv.size ≤ 500; omega⟩)
              clear c1 c2 HX
              go_wp2_with fail
              exact ⟨⟨kk + 1, by omega, by go_num, trivial, HN⟩, by simp [RowKit.intOf]; omega⟩
        · obtain rfl : kk = l.length := by omega
          have h0 := HP.out
          rw [List.take_length] at h0
          have H0 := Lib.hid h0
          clear h0 HP
          go_wp2_with fail
          go_loopw [6] (fun i wz => ∃ kk : Nat, kk ≤ ops.length ∧ i = .int .i64 (kk : Int) ∧ Hid (Turn No wr wz ∧ ∀ (j : Nat) (x : Opx) (ws : List Wr), j < kk → ops[j]? = some x → ps[j]? = some ws → Few x.k x.v x.o ws)) (fun i _ => ops.length - (RowKit.intOf i).toNat)
          case atStart => exact ⟨0, Nat.zero_le _, rfl, Lib.hid ⟨Turn.refl _ _, fun j x ws hj => by omega⟩⟩
          case round =>
            obtain ⟨kk, hm, rfl, HP⟩ := hrel
            by_cases hlt : kk < ops.length
            · obtain ⟨x, hx⟩ : ∃ x, ops[kk]? = some x := ⟨ops[kk], List.getElem?_eq_getElem hlt⟩
              obtain ⟨ws, hws⟩ : ∃ ws, ps[kk]? = some ws := ⟨ps[kk]'(by rw [HR.out.2.plen]; exact hlt), List.getElem?_eq_getElem _⟩
              have hin := (HR.out.2.get kk x ws hx hws).no HP.out.1
              obtain ⟨b, off, hB, hb, hcell⟩ := (HR.out.2.row.turn HP.out.1 fun _ _ _ h => h).opx hx
              have HXX := Lib.hid (And.intro hx hws)
              obtain ⟨kind, k, v, o, had, aft, A3, len3, cap3⟩ := x
              have hlen : ws.length = len3 := hin.row.hlen
              subst hlen
              have CG := Lib.hid (greatop_any kind k v o had aft A3 cap3 ws _ hin.row.row hin.fit.1 hin.fit.2.1 hin.fit.2.2 hin.row.fit hin.row.hmax)
              have x0 := hcell 0 _ (by decide) rfl
              have x1 := hcell 1 _ (by decide) rfl
              have x2 := hcell 2 _ (by decide) rfl
              have x3 := hcell 3 _ (by decide) rfl
              have x4 := hcell 4 _ (by decide) rfl
              have x5 := hcell 5 _ (by decide) rfl
              have x6 := hcell 6 _ (by decide) rfl
              simp only [Nat.add_zero] at x0 x1 x2 x3 x4 x5 x6
              subst hB
              clear hb hx hws hin hcell
              go_upto_if 47 with (go_at_call 26; refine CG.out.mono ?_; rintro e w2 ⟨⟨bv, rfl, hP⟩, ht⟩; have HG := Lib.hid hP; have HT := Lib.hid ht; clear hP ht)
              clear x0 x1 x2 x3 x4 x5 x6 CG
              cases bv with
              | true =>
                go_wp2_with fail
                go_ret
                exact ⟨Grt.yes, HP.out.1.trans HT.out⟩
              | false =>
                have hN : ∀ (j : Nat) (x : Opx) (ws : List Wr), j < kk + 1 → ops[j]? = some x → ps[j]? = some ws → Few x.k x.v x.o ws := fun j x ws2 hj h1 h2 => by
                  by_cases e : j < kk
                  · exact HP.out.2 j x ws2 e h1 h2
                  · obtain rfl : j = kk := by omega
                    have e1 := HXX.out.1.symm.trans h1
                    have e2 := HXX.out.2.symm.trans h2
                    injection e1 with e1
                    injection e2 with e2
                    subst e1 e2
                    exact HG.out rfl
                have HN := Lib.hid hN
                clear hN
                go_wp2_with fail
                exact ⟨⟨kk + 1, by omega, by go_num, Lib.hid ⟨HP.out.1.trans HT.out, HN.out⟩⟩, by simp [RowKit.intOf]; omega⟩
            · obtain rfl : kk = ops.length := by omega
              go_wp2_with fail
              go_ret
              exact ⟨Grt.no ⟨HB.out.1, HB.out.2, H0.out, fun j x ws h1 h2 => HP.out.2 j x ws (List.getElem?_eq_some_iff.1 h1).1 h1 h2⟩, HP.out.1⟩
set_option maxHeartbeats 2000000 in
theorem same_any (A : Option Addr) (cap : Nat) (l : List Pr) (B : Option Addr) (cap2 : Nat) (m : List Pr) (w : World) (hl : Row w A (pcs l)) (hm : Row w B (pcs m)) (hn : l.length ≤ 100000) :
    Calls Try.prog 16 #[.slice A l.length cap, .slice B m.length cap2] w fun e w' => e = .returned (.bool (decide (l = m))) ∧ Turn No w w' := by
  have HR := Lib.hid (And.intro hl hm)
  clear hl hm
  by_cases hne : l.length = m.length
  · obtain ⟨r, hr⟩ : ∃ r, decide (l = m) = r := ⟨_, rfl⟩
    have HQ := Lib.hid (And.intro hne hr)
    rw [hr]
    rw [← hne]
    clear hne hr
    go_enter Try.func16, Try.ntmps16
    go_wp2_with fail
    go_loopw [5] (fun i wr => ∃ kk : Nat, kk ≤ l.length ∧ i = .int .i64 (kk : Int) ∧ Hid (Turn No w wr ∧ l.take kk = m.take kk)) (fun i _ => l.length - (RowKit.intOf i).toNat)
    case atStart => exact ⟨0, Nat.zero_le _, rfl, Lib.hid ⟨Turn.refl _ _, by simp⟩⟩
    case round =>
      obtain ⟨kk, hk, rfl, HP⟩ := hrel
      by_cases hlt : kk < l.length
      · obtain ⟨x, hx⟩ : ∃ x, l[kk]? = some x := ⟨l[kk], List.getElem?_eq_getElem hlt⟩
        obtain ⟨y, hy⟩ : ∃ y, m[kk]? = some y := ⟨m[kk]'(by rw [← HQ.out.1]; exact hlt), List.getElem?_eq_getElem (by rw [← HQ.out.1]; exact hlt)⟩
        obtain ⟨b, off, hA, hb, x0, x1⟩ := (HR.out.1.turn HP.out.1 fun _ _ _ h => h).pair hx
        obtain ⟨b2, off2, hB, hb2, y0, y1⟩ := (HR.out.2.turn HP.out.1 fun _ _ _ h => h).pair hy
        have HX : Hid ((x = y → l.take (kk + 1) = m.take (kk + 1)) ∧ (x ≠ y → r = false)) := Lib.hid ⟨fun e => by subst e; rw [List.take_add_one, List.take_add_one, hx, hy, HP.out.2], fun e => by
          rw [← HQ.out.2]
          refine decide_eq_false fun h => e ?_
          rw [h, hy] at hx
          injection hx with hx
          exact hx.symm⟩
        have HT := Lib.hid HP.out.1
        obtain ⟨xk, xv⟩ := x
        obtain ⟨yk, yv⟩ := y
        simp only at x0 x1 y0 y1
        have qn := fun W => neq_pr xk yk xv yv W
        subst hA hB
        clear hb hb2 hx hy HP
        have hq1 : (0 : Int) ≤ (kk : Int) := by omega
        have hq2 : (kk : Int) < (l.length : Int) := by omega
        by_cases he : prEq xk yk xv yv = true
        · have HE := Lib.hid (HX.out.1 (prEq_iff (p := ⟨xk, xv⟩) (q := ⟨yk, yv⟩) |>.1 he))
          rw [he] at qn
          clear he HX
          go_wp2_with fail
          go_quiet (fail)
          all_goals go_wp2_with fail
          all_goals exact ⟨⟨kk + 1, by omega, by go_num, Lib.hid ⟨by first | exact HT.out.drewN _ | exact HT.out.drew, HE.out⟩⟩, by simp [RowKit.intOf]; omega⟩
        · have hr := HX.out.2 (fun e => he (prEq_iff (p := ⟨xk, xv⟩) (q := ⟨yk, yv⟩) |>.2 e))
          have hf : prEq xk yk xv yv = false := by simpa using he
          rw [hf] at qn
          subst hr
          clear he hf HX
          go_wp2_with fail
          go_quiet (fail)
          all_goals go_wp2_with fail
          all_goals go_ret
          all_goals exact ⟨rfl, by first | exact HT.out.drewN _ | exact HT.out.drew⟩
      · obtain rfl : kk = l.length := by omega
        have hr : r = true := by
          rw [← HQ.out.2]
          refine decide_eq_true ?_
          have := HP.out.2
          rw [List.take_length, List.take_of_length_le (by rw [HQ.out.1]; exact Nat.le_refl _)] at this
          exact this
        subst hr
        go_wp2_with fail
        go_ret
        exact ⟨rfl, HP.out.1⟩
  · have hd : decide (l = m) = false := decide_eq_false fun e => hne (by rw [e])
    have hne' : ¬ (l.length : Int) = (m.length : Int) := by omega
    rw [hd]
    clear hd hne
    go_enter Try.func16, Try.ntmps16
    go_wp2_with fail
    go_ret
    exact ⟨rfl, Turn.refl _ _⟩
end Go.Proofs.Ytllppkfeiifklaa
namespace Go.Proofs.Ytllppkfeiifklaa
open Go.RowKit Go.Lib
set_option linter.unusedVariables false
set_option maxRecDepth 20000
set_option linter.unusedSimpArgs false

theorem fit500 {a : ByteArray} (h : a.size ≤ 500) : Fit a := Nat.le_trans h (by decide)
/-- Four stores into a new block of an answer. -/
theorem ans_box (w : World) (a : Ans) : Turn No w ((((( w.alloc (.cells #[.int .i64 0, .bool false, .string ⟨#[]⟩, .string ⟨#[]⟩] 38)).setCell ⟨w.heap.size, 0, none⟩ (.int .i64 a.code)).setCell ⟨w.heap.size, 1, none⟩ (.bool a.found)).setCell ⟨w.heap.size, 2, none⟩ (.string a.k)).setCell ⟨w.heap.size, 3, none⟩ (.string a.v)) ∧
    At ((((( w.alloc (.cells #[.int .i64 0, .bool false, .string ⟨#[]⟩, .string ⟨#[]⟩] 38)).setCell ⟨w.heap.size, 0, none⟩ (.int .i64 a.code)).setCell ⟨w.heap.size, 1, none⟩ (.bool a.found)).setCell ⟨w.heap.size, 2, none⟩ (.string a.k)).setCell ⟨w.heap.size, 3, none⟩ (.string a.v)) w.heap.size (.cells a.ar 38 (0, 0)) := by
  constructor
  · exact (((((Turn.refl No w).alloc _).setCell (Or.inr (Nat.le_refl _)) _).setCell (Or.inr (Nat.le_refl _)) _).setCell (Or.inr (Nat.le_refl _)) _).setCell (Or.inr (Nat.le_refl _)) _
  · have := ((((At.new w (.cells #[.int .i64 0, .bool false, .string ⟨#[]⟩, .string ⟨#[]⟩] 38)).set 0 (.int .i64 a.code)).set 1 (.bool a.found)).set 2 (.string a.k)).set 3 (.string a.v)
    simpa [Ans.ar] using this

/-- What there is when the second answer is in its box. -/
structure Nb (w wx : World) (op : Array Value) (ac : Int) (af : Bool) (ak av : ByteArray) (g0 g4 g5 : Nat) : Prop where
  tu : Turn No w wx
  h0 : At wx g0 (.cells op 34 (0, 0))
  h4 : At wx g4 (.cells #[.int .i64 ac, .bool af, .string ak, .string av] 38 (0, 0))
  h5 : At wx g5 (.cells #[.int .i64 ac, .bool af, .string ak, .string av] 38 (0, 0))
section
variable {w wd : World} {op : Array Value} {ac : Int} {af : Bool} {ak av : ByteArray} {g0 g4 g5 : Nat}
theorem nb_new (t : Turn No w wd) (h0 : At wd g0 (.cells op 34 (0, 0))) (h4 : At wd g4 (.cells #[.int .i64 ac, .bool af, .string ak, .string av] 38 (0, 0))) : Nb w (wd.alloc (.cells #[.int .i64 ac, .bool af, .string ak, .string av] 38)) op ac af ak av g0 g4 wd.heap.size :=
  ⟨t.alloc _, h0.no ((Turn.refl _ _).alloc _), h4.no ((Turn.refl _ _).alloc _), At.new _ _⟩
theorem nb_set (t : Turn No w wd) (h0 : At wd g0 (.cells op 34 (0, 0))) (h4 : At wd g4 (.cells #[.int .i64 ac, .bool af, .string ak, .string av] 38 (0, 0))) (h5 : At wd g5 (.cells #[.int .i64 0, .bool false, .string ⟨#[]⟩, .string ⟨#[]⟩] 38 (0, 0))) (hle : w.heap.size ≤ g5) (hne : g4 ≠ g5) :
    Nb w ((((wd.setCell ⟨g5, 0, none⟩ (.int .i64 ac)).setCell ⟨g5, 1, none⟩ (.bool af)).setCell ⟨g5, 2, none⟩ (.string ak)).setCell ⟨g5, 3, none⟩ (.string av)) op ac af ak av g0 g4 g5 := by
  have t4 : Turn (fun i => i = g5) wd ((((wd.setCell ⟨g5, 0, none⟩ (.int .i64 ac)).setCell ⟨g5, 1, none⟩ (.bool af)).setCell ⟨g5, 2, none⟩ (.string ak)).setCell ⟨g5, 3, none⟩ (.string av)) :=
    (((Turn.set1 wd g5 0 _).trans (Turn.set1 _ g5 1 _)).trans (Turn.set1 _ g5 2 _)).trans (Turn.set1 _ g5 3 _)
  have n0 : g0 ≠ g5 := At.ne h0 h5 (fun e => by injection e with _ e; exact absurd e (by decide))
  refine ⟨t.then t4 (fun i hi e => by omega), h0.turn t4 n0, h4.turn t4 hne, ?_⟩
  simpa using (((h5.set 0 (.int .i64 ac)).set 1 (.bool af)).set 2 (.string ak)).set 3 (.string av)
end

end Go.Proofs.Ytllppkfeiifklaa
namespace Go.Proofs.Ytllppkfeiifklaa
open Go.RowKit Go.Lib
set_option linter.unusedVariables false
set_option maxRecDepth 20000
set_option linter.unusedSimpArgs false

/-- One map, new since w. -/
structure So (w wr : World) (m : Nat) (r : Option Nat) (l : List Pr) : Prop where
  a : Om wr w.heap.size m r l
  tu : Turn No w wr
/-- Two maps, new since w, apart. -/
structure Sc (w wr : World) (m1 : Nat) (r1 : Option Nat) (l1 : List Pr) (m2 : Nat) (r2 : Option Nat) (l2 : List Pr) : Prop where
  a : Om wr w.heap.size m1 r1 l1
  b : Om wr w.heap.size m2 r2 l2
  ne : m1 ≠ m2
  dj : ∀ k, r1 = some k → r2 ≠ some k
  tu : Turn No w wr
/-- What a map's turning may touch. -/
abbrev Mp (m : Nat) (r : Option Nat) (k : Nat) : Prop := k = m ∨ r = some k
theorem Om.nr {w : World} {Z mb mb' : Nat} {rb rb' : Option Nat} {l l' : List Pr} (h : Om w Z mb rb l) (h' : Om w Z mb' rb' l') : rb ≠ some mb' := by
  obtain ⟨A, cap, hm, _, _⟩ := h'.rowed
  obtain ⟨A2, cap2, _, hr, hb⟩ := h.rowed
  intro e
  rcases hr.2 with ⟨hv, _⟩ | ⟨g', c', cur, hv, _, hg', _⟩
  · rw [hv, e] at hb; cases hb
  · rw [hv, e] at hb
    injection hb with hb
    exact At.ne hm hg' (fun e => by injection e with _ e; exact absurd e (by decide)) hb.symm
theorem Om.keep {w w' : World} {Z mb g : Nat} {rb : Option Nat} {l : List Pr} {c : Array Value} {t : TypeId} (h : Om w Z mb rb l) (hg : At w g (.cells c t (0, 0))) (h1 : t ≠ 98) (h2 : t ≠ 47) (tu : Turn (Mp mb rb) w w') : At w' g (.cells c t (0, 0)) := by
  have := h.apart hg h1 h2
  exact hg.turn tu (fun e => e.elim this.1 this.2)
theorem turn_mp {w W w' : World} {m : Nat} {r : Option Nat} {l : List Pr} (h : Om W w.heap.size m r l) (t : Turn No w W) (t2 : Turn (Mp m r) W w') : Turn No w w' :=
  t.then t2 fun i hi e => by
    rcases e with e | e
    · have := h.mb_new; omega
    · have := (h.rb_lt e).1; omega
/-- Do, of a map that is new since w, with what came in. -/
theorem om_do {w W : World} {m : Nat} {r : Option Nat} {l : List Pr} (h : Om W w.heap.size m r l) (t : Turn No w W) (kind : Int) (k v o : ByteArray) (had aft : Bool) (A : Option Addr) (cap : Nat) (ws : List Wr) (hrow : Row w A (wcs ws)) (hf : Few k v o ws) (hn : l.length ≤ 30000) {a : Ans} {l2 : List Pr} (ha : doA l kind k v o had aft ws = a) (hl : doM l kind k v o had aft ws = l2) :
    Calls Try.prog 31 #[.pointer (some ⟨m, 0, none⟩), .agg #[.int .u8 kind, .string k, .string v, .string o, .bool had, .bool aft, .slice A ws.length cap]] W fun e w' => e = .returned (.agg #[.int .i64 a.code, .bool a.found, .string a.k, .string a.v]) ∧
      ∃ r', Om w' w.heap.size m r' l2 ∧ (r' = r ∨ ∃ k, r' = some k ∧ W.heap.size ≤ k) ∧ Turn (Mp m r) W w' := by
  refine (do_any h kind k v o had aft A cap ws (hrow.turn t fun _ _ _ h => h) (fun b o hA h0 => ?_) ⟨fit500 hf.k, fit500 hf.v, fun x hx => ⟨fit500 (hf.w x hx).1, fit500 (hf.w x hx).2⟩⟩ (fit500 hf.o) t.size (by have := hf.n; omega)).mono ?_
  · obtain ⟨x, hx⟩ : ∃ x, ws[0]? = some x := ⟨ws[0], List.getElem?_eq_getElem h0⟩
    obtain ⟨b', o', hA', hb, _⟩ := hrow.wr hx
    rw [hA] at hA'
    injection hA' with hA'
    injection hA' with e1 _
    subst e1
    refine ⟨by have := h.mb_new; omega, fun e => ?_⟩
    have := (h.rb_lt e).1
    omega
  · rintro e w' ⟨rfl, r', hom, hr, ht⟩
    rw [ha]
    rw [hl] at hom
    exact ⟨rfl, r', hom, hr, ht⟩
section
variable {w W : World} {m1 m2 : Nat} {r1 r2 : Option Nat} {l1 l2 : List Pr}
theorem Sc.swap (h : Sc w W m1 r1 l1 m2 r2 l2) : Sc w W m2 r2 l2 m1 r1 l1 := ⟨h.b, h.a, fun e => h.ne e.symm, fun k h1 h2 => h.dj k h2 h1, h.tu⟩
theorem Sc.no {w' : World} (h : Sc w W m1 r1 l1 m2 r2 l2) (t : Turn No W w') : Sc w w' m1 r1 l1 m2 r2 l2 := ⟨h.a.no t, h.b.no t, h.ne, h.dj, h.tu.trans t⟩
theorem Sc.far {w' : World} {X : Nat → Prop} (h : Sc w W m1 r1 l1 m2 r2 l2) (t : Turn X W w') (hX : ∀ k, X k → w.heap.size ≤ k ∧ k ≠ m1 ∧ k ≠ m2 ∧ r1 ≠ some k ∧ r2 ≠ some k) : Sc w w' m1 r1 l1 m2 r2 l2 :=
  ⟨h.a.turn t (fun e => (hX _ e).2.1 rfl) (fun k hk e => (hX _ e).2.2.2.1 hk), h.b.turn t (fun e => (hX _ e).2.2.1 rfl) (fun k hk e => (hX _ e).2.2.2.2 hk), h.ne, h.dj, h.tu.then t fun i hi e => by have := (hX i e).1; omega⟩
/-- The first one has turned. -/
theorem Sc.step {w' : World} {l1' : List Pr} {r1' : Option Nat} (h : Sc w W m1 r1 l1 m2 r2 l2) (hom : Om w' w.heap.size m1 r1' l1') (hr : r1' = r1 ∨ ∃ k, r1' = some k ∧ W.heap.size ≤ k) (t : Turn (Mp m1 r1) W w') : Sc w w' m1 r1' l1' m2 r2 l2 := by
  refine ⟨hom, h.b.turn t (fun e => ?_) (fun k hk e => ?_), h.ne, fun k hk h2 => ?_, turn_mp h.a h.tu t⟩
  · rcases e with e | e
    · exact h.ne e.symm
    · exact h.a.nr h.b e
  · rcases e with e | e
    · subst e; exact h.b.nr h.a hk
    · exact h.dj k e hk
  · rcases hr with e | ⟨q, e, hq⟩
    · rw [e] at hk; exact h.dj k hk h2
    · rw [e] at hk
      injection hk with hk
      have := (h.b.rb_lt h2).2
      omega
theorem So.no {w' : World} (h : So w W m1 r1 l1) (t : Turn No W w') : So w w' m1 r1 l1 := ⟨h.a.no t, h.tu.trans t⟩
end
/-- New: the first one. -/
theorem so_new {w W : World} (t : Turn No w W) (A : Option Addr) (cap : Nat) (l : List Pr) (hl : InP w A l.length cap l) (hn : l.length ≤ 100) :
    Calls Try.prog 28 #[.slice A l.length cap] W fun e w' => ∃ m r, e = .returned (.pointer (some ⟨m, 0, none⟩)) ∧ So w w' m (some r) (news l) ∧ Turn No W w' := by
  refine (new_any l A cap W t.size (hl.row.turn t fun _ _ _ h => h) hl.nil hl.fit (by omega)).mono ?_
  rintro e w' ⟨mb, rb, rfl, hom, h1, h2, ht⟩
  exact ⟨mb, rb, rfl, ⟨hom, t.trans ht⟩, ht⟩
/-- New: the second one. -/
theorem sc_new {w W : World} {m1 : Nat} {r1 : Option Nat} {l1 : List Pr} (h : So w W m1 r1 l1) (A : Option Addr) (cap : Nat) (l : List Pr) (hl : InP w A l.length cap l) (hn : l.length ≤ 100) :
    Calls Try.prog 28 #[.slice A l.length cap] W fun e w' => ∃ m r, e = .returned (.pointer (some ⟨m, 0, none⟩)) ∧ Sc w w' m1 r1 l1 m (some r) (news l) ∧ Turn No W w' := by
  refine (new_any l A cap W h.tu.size (hl.row.turn h.tu fun _ _ _ h => h) hl.nil hl.fit (by omega)).mono ?_
  rintro e w' ⟨mb, rb, rfl, hom, h1, h2, ht⟩
  refine ⟨mb, rb, rfl, ⟨h.a.no ht, hom, fun e => ?_, fun k hk e => ?_, h.tu.trans ht⟩, ht⟩
  · have := h.a.lt; omega
  · injection e with e
    have := (h.a.rb_lt hk).2
    omega
theorem news_few {l : List Pr} (h : l.length ≤ 100) : (news l).length ≤ 100 := Nat.le_trans (news_length l) h
/-- A batch that is let by: so is each of its writes. -/
theorem ref_each {k v o : ByteArray} {had : Bool} {ws : List Wr} (h : refO 6 k v o had ws = 0) {x : Wr} (hx : x ∈ ws) : refO (if x.gone then 3 else 2) x.k x.v ⟨#[]⟩ false [] = 0 := by
  have h1 : refW ws = 0 := by
    unfold refO at h
    rwa [if_neg (by decide), if_neg (by decide), if_neg (by decide), if_pos rfl] at h
  have h2 : ws.any badW = false := by
    unfold refW at h1
    split at h1
    · cases h1
    · split at h1
      · cases h1
      · rename_i h3; simpa using h3
  have h3 : badW x = false := by
    have := List.any_eq_false.1 h2 x hx
    simpa using this
  unfold badW at h3
  have hk : bigK x.k = false := by
    cases hb : bigK x.k with
    | false => rfl
    | true => rw [hb] at h3; simp at h3
  unfold refO
  cases hg : x.gone with
  | true => simp [hk]
  | false =>
    rw [hg] at h3
    have hv : bigV x.v = false := by simpa [hk] using h3
    simp [hk, hv]
theorem doM_each {l : List Pr} {x : Wr} (h : refO (if x.gone then 3 else 2) x.k x.v ⟨#[]⟩ false [] = 0) : doM l (if x.gone then 3 else 2) x.k x.v ⟨#[]⟩ false false [] = wr1 l x := by
  unfold doM wr1
  rw [if_pos h]
  cases x.gone <;> simp
theorem doM_batch {l : List Pr} {k v o : ByteArray} {had aft : Bool} {ws : List Wr} : doM l 6 k v o had aft ws = if refO 6 k v o had ws = 0 then wrL l ws else l := by
  unfold doM
  split
  · simp
  · rfl
theorem doA_batch {l : List Pr} {k v o : ByteArray} {had aft : Bool} {ws : List Wr} : doA l 6 k v o had aft ws = ⟨refO 6 k v o had ws, false, ⟨#[]⟩, ⟨#[]⟩⟩ := by
  unfold doA
  split
  · rename_i h; rw [h]; simp
  · rfl
theorem wrL_length (l : List Pr) : ∀ ws : List Wr, (wrL l ws).length ≤ l.length + ws.length := by
  intro ws
  unfold wrL
  induction ws generalizing l with
  | nil => simp
  | cons x t ih =>
    rw [List.foldl_cons]
    have h1 := ih (wr1 l x)
    have h2 := wr1_length l x
    rw [List.length_cons]
    omega
end Go.Proofs.Ytllppkfeiifklaa
namespace Go.Proofs.Ytllppkfeiifklaa
open Go.RowKit Go.Lib
set_option linter.unusedVariables false
set_option maxRecDepth 20000
set_option linter.unusedSimpArgs false

def namesO (kind : Int) (k : ByteArray) (ws : List Wr) (key : ByteArray) : Bool := if kind = 6 then ws.any (fun x => decide (x.k = key)) else decide (k = key)
def sharesO (kind : Int) (k : ByteArray) (ws : List Wr) (kind2 : Int) (k2 : ByteArray) (ws2 : List Wr) : Bool := if kind = 6 then ws.any (fun x => namesO kind2 k2 ws2 x.k) else namesO kind2 k2 ws2 k
theorem get_wr1 (l : List Pr) (x : Wr) (q : ByteArray) : getL (wr1 l x) q = if q = x.k then (if x.gone then none else some x.v) else getL l q := by
  unfold wr1
  cases x.gone with
  | true => simp [get_del]
  | false => simp [get_put]
theorem get_wrL : ∀ (ws : List Wr) (l : List Pr) (q : ByteArray), (∀ x ∈ ws, x.k ≠ q) → getL (wrL l ws) q = getL l q
  | [], l, q, _ => rfl
  | x :: t, l, q, h => by
    have := get_wrL t (wr1 l x) q (fun y hy => h y (List.mem_cons_of_mem _ hy))
    have e : wrL l (x :: t) = wrL (wr1 l x) t := rfl
    rw [e, this, get_wr1, if_neg (fun e => h x List.mem_cons_self e.symm)]
theorem get_wrL_same : ∀ (ws : List Wr) (l l' : List Pr) (q : ByteArray), getL l q = getL l' q → getL (wrL l ws) q = getL (wrL l' ws) q
  | [], l, l', q, h => h
  | x :: t, l, l', q, h => by
    have e : ∀ l, wrL l (x :: t) = wrL (wr1 l x) t := fun _ => rfl
    rw [e, e]
    exact get_wrL_same t _ _ q (by rw [get_wr1, get_wr1, h])
/-- No other key is touched. -/
theorem doM_other (l : List Pr) (kind : Int) (k v o : ByteArray) (had aft : Bool) (ws : List Wr) (q : ByteArray) (h : namesO kind k ws q = false) : getL (doM l kind k v o had aft ws) q = getL l q := by
  unfold doM
  split
  · by_cases h6 : kind = 6
    · subst h6
      simp only [namesO, if_true] at h
      rw [if_neg (by decide), if_neg (by decide), if_neg (by decide), if_pos rfl]
      exact get_wrL ws l q fun x hx e => by
        have := List.any_eq_false.1 h x hx
        simp [e] at this
    · have hk : k ≠ q := by simpa [namesO, h6] using h
      have hk2 : ¬ q = k := fun e => hk e.symm
      split
      · rw [get_put, if_neg hk2]
      · split
        · rw [get_del, if_neg hk2]
        · split
          · split
            · rw [get_put, if_neg hk2]
            · rfl
          · rfl
  · rfl
/-- Only the key that it names is looked at. -/
theorem doM_same (l l' : List Pr) (kind : Int) (k v o : ByteArray) (had aft : Bool) (ws : List Wr) (q : ByteArray) (h : getL l q = getL l' q) (hk : kind ≠ 6 → getL l k = getL l' k) : getL (doM l kind k v o had aft ws) q = getL (doM l' kind k v o had aft ws) q := by
  unfold doM
  split
  · split
    · rw [get_put, get_put, h]
    · split
      · rw [get_del, get_del, h]
      · split
        · rename_i h4
          have hs : swD l k o had = swD l' k o had := by unfold swD; rw [hk (by omega)]
          rw [hs]
          split
          · rw [get_put, get_put, h]
          · exact h
        · split
          · exact get_wrL_same ws l l' q h
          · exact h
  · exact h
theorem doA_same (l l' : List Pr) (kind : Int) (k v o : ByteArray) (had aft : Bool) (ws : List Wr) (h5 : kind ≠ 5) (hk : kind ≠ 6 → getL l k = getL l' k) : doA l kind k v o had aft ws = doA l' kind k v o had aft ws := by
  unfold doA
  split
  · split
    · rename_i h; rw [hk (by omega)]
    · split
      · have hs : swD l k o had = swD l' k o had := by unfold swD; rw [hk (by omega)]
        rw [hs, hk (by omega)]
      · simp only [if_neg h5]
  · rfl
/-- Keys that one names and the other doesn't. -/
theorem shares_none {kind : Int} {k : ByteArray} {ws : List Wr} {kind2 : Int} {k2 : ByteArray} {ws2 : List Wr} (h : sharesO kind k ws kind2 k2 ws2 = false) {q : ByteArray} (hq : namesO kind k ws q = true) : namesO kind2 k2 ws2 q = false := by
  unfold sharesO at h
  unfold namesO at hq
  split at h
  · rename_i h6
    rw [if_pos h6] at hq
    obtain ⟨x, hx, he⟩ := List.any_eq_true.1 hq
    have := List.any_eq_false.1 h x hx
    have he := of_decide_eq_true he
    rw [he] at this
    simpa using this
  · rename_i h6
    rw [if_neg h6] at hq
    have he := of_decide_eq_true hq
    rw [← he]
    exact h
theorem names_self {kind : Int} {k : ByteArray} {ws : List Wr} (h : kind ≠ 6) : namesO kind k ws k = true := by simp [namesO, h]
theorem asc_wrL : ∀ (ws : List Wr) (l : List Pr), Asc l → Asc (wrL l ws)
  | [], l, h => h
  | x :: t, l, h => asc_wrL t _ (by unfold wr1; split; exact h.del _; exact h.put _ _)
theorem asc_doM {l : List Pr} (h : Asc l) (kind : Int) (k v o : ByteArray) (had aft : Bool) (ws : List Wr) : Asc (doM l kind k v o had aft ws) := by
  unfold doM
  split
  · split
    · exact h.put _ _
    · split
      · exact h.del _
      · split
        · split
          · exact h.put _ _
          · exact h
        · split
          · exact asc_wrL ws l h
          · exact h
  · exact h
theorem doM_length (l : List Pr) (kind : Int) (k v o : ByteArray) (had aft : Bool) (ws : List Wr) : (doM l kind k v o had aft ws).length ≤ l.length + 1 + ws.length := by
  unfold doM
  have h1 := put_length l k v
  have h2 := del_length l k
  have h3 := wrL_length l ws
  split
  · split
    · omega
    · split
      · omega
      · split
        · split <;> omega
        · split <;> omega
  · omega
/-- Two operations that name no key, both, may be done in either row. -/
structure Apt (l : List Pr) (x : Opx) (xw : List Wr) (y : Opx) (yw : List Wr) : Prop where
  ma : doM (doM l x.kind x.k x.v x.o x.had x.aft xw) y.kind y.k y.v y.o y.had y.aft yw = doM (doM l y.kind y.k y.v y.o y.had y.aft yw) x.kind x.k x.v x.o x.had x.aft xw
  ax : doA (doM l y.kind y.k y.v y.o y.had y.aft yw) x.kind x.k x.v x.o x.had x.aft xw = doA l x.kind x.k x.v x.o x.had x.aft xw
  ay : doA (doM l x.kind x.k x.v x.o x.had x.aft xw) y.kind y.k y.v y.o y.had y.aft yw = doA l y.kind y.k y.v y.o y.had y.aft yw
theorem apt_of {l : List Pr} (hl : Asc l) {x : Opx} {xw : List Wr} {y : Opx} {yw : List Wr} (h : sharesO x.kind x.k xw y.kind y.k yw = false) (hx5 : x.kind ≠ 5) (hy5 : y.kind ≠ 5) : Apt l x xw y yw := by
  have hyx : ∀ q, namesO y.kind y.k yw q = true → namesO x.kind x.k xw q = false := fun q hq => by
    cases hb : namesO x.kind x.k xw q with
    | false => rfl
    | true => rw [shares_none h hb] at hq; cases hq
  have kx : x.kind ≠ 6 → getL (doM l y.kind y.k y.v y.o y.had y.aft yw) x.k = getL l x.k := fun h6 => doM_other _ _ _ _ _ _ _ _ _ (shares_none h (names_self h6))
  have ky : y.kind ≠ 6 → getL (doM l x.kind x.k x.v x.o x.had x.aft xw) y.k = getL l y.k := fun h6 => doM_other _ _ _ _ _ _ _ _ _ (hyx _ (names_self h6))
  refine ⟨?_, doA_same _ _ _ _ _ _ _ _ _ hx5 kx, doA_same _ _ _ _ _ _ _ _ _ hy5 ky⟩
  refine (asc_doM (asc_doM hl _ _ _ _ _ _ _) _ _ _ _ _ _ _).ext (asc_doM (asc_doM hl _ _ _ _ _ _ _) _ _ _ _ _ _ _) fun q => ?_
  cases hq : namesO x.kind x.k xw q with
  | true =>
    rw [doM_other _ y.kind _ _ _ _ _ _ _ (shares_none h hq)]
    exact doM_same _ _ _ _ _ _ _ _ _ q (doM_other l _ _ _ _ _ _ _ q (shares_none h hq)).symm (fun h6 => (kx h6).symm)
  | false =>
    rw [doM_other _ x.kind _ _ _ _ _ _ q hq]
    exact doM_same _ _ _ _ _ _ _ _ _ q (doM_other l _ _ _ _ _ _ _ q hq) (fun h6 => ky h6)
/-- What x doesn't name is there as it was. -/
theorem mem_other {l : List Pr} (hl : Asc l) {kind : Int} {k v o : ByteArray} {had aft : Bool} {ws : List Wr} {p : Pr} (h : namesO kind k ws p.k = false) : p ∈ doM l kind k v o had aft ws ↔ p ∈ l := by
  have h1 := doM_other l kind k v o had aft ws p.k h
  constructor
  · intro hp
    have := (asc_doM hl kind k v o had aft ws).get_of_mem (k := p.k) (v := p.v) hp
    rw [h1] at this
    exact get_mem this
  · intro hp
    have := hl.get_of_mem (k := p.k) (v := p.v) hp
    rw [← h1] at this
    exact get_mem this

theorem names_any_step {ws : List Wr} {j : Nat} {x : Wr} {key : ByteArray} (hj : ws[j]? = some x) (h : (ws.take j).any (fun x => decide (x.k = key)) = false) (hx : x.k ≠ key) : (ws.take (j + 1)).any (fun x => decide (x.k = key)) = false := by
  rw [List.take_add_one, List.any_append, h, hj]
  simp [hx]
end Go.Proofs.Ytllppkfeiifklaa
namespace Go.Proofs.Ytllppkfeiifklaa
open Go.RowKit Go.Lib
set_option linter.unusedVariables false
set_option maxRecDepth 20000
set_option linter.unusedSimpArgs false

theorem two_new (w : World) (c1 c2 : Array Value) (t1 t2 : TypeId) : Turn No w ((w.alloc (.cells c1 t1)).alloc (.cells c2 t2)) ∧ At ((w.alloc (.cells c1 t1)).alloc (.cells c2 t2)) w.heap.size (.cells c1 t1 (0, 0)) ∧ At ((w.alloc (.cells c1 t1)).alloc (.cells c2 t2)) (w.heap.size + 1) (.cells c2 t2 (0, 0)) :=
  ⟨((Turn.refl _ _).alloc _).alloc _, (At.new _ _).no ((Turn.refl _ _).alloc _), At.new2 _ _ _⟩
end Go.Proofs.Ytllppkfeiifklaa
namespace Go.Proofs.Ytllppkfeiifklaa
open Go.RowKit Go.Lib
set_option linter.unusedVariables false
set_option maxRecDepth 20000
set_option linter.unusedSimpArgs false

theorem Row.at0 {w : World} {b : Nat} {l : List Pr} (h : Row w (some ⟨b, 0, none⟩) (pcs l)) {j : Nat} {p : Pr} (hj : l[j]? = some p) : w.cell? ⟨b, j * 2, none⟩ = some (.string p.k) ∧ w.cell? ⟨b, j * 2 + 1, none⟩ = some (.string p.v) := by
  obtain ⟨b', o', e, _, h1, h2⟩ := h.pair hj
  injection e with e
  injection e with e1 e2
  subst e1 e2
  rw [Nat.zero_add] at h1 h2
  exact ⟨h1, h2⟩
theorem Row.no {w w' : World} {A : Option Addr} {xs : List Value} (h : Row w A xs) (t : Turn No w w') : Row w' A xs := h.turn t fun _ _ _ h => h
theorem any_eq_step {l : List Pr} {j : Nat} {q p : Pr} (hj : l[j]? = some q) : (l.take (j + 1)).any (fun x => decide (x = p)) = ((l.take j).any (fun x => decide (x = p)) || decide (q = p)) := by
  rw [List.take_add_one, List.any_append, hj]
  simp
theorem any_eq_mem {l : List Pr} {p : Pr} (h : p ∈ l) : (l.take l.length).any (fun x => decide (x = p)) = true := by
  rw [List.take_length]
  exact List.any_eq_true.2 ⟨p, h, decide_eq_true rfl⟩
theorem prEq_dec (q p : Pr) : prEq q.k p.k q.v p.v = decide (q = p) := by
  cases h : prEq q.k p.k q.v p.v with
  | true => exact (decide_eq_true (prEq_iff.1 h)).symm
  | false => exact (decide_eq_false fun e => by rw [prEq_iff.2 e] at h; cases h).symm

end Go.Proofs.Ytllppkfeiifklaa
