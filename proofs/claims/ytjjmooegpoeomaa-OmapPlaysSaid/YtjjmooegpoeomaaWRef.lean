/-
  Refused: by which error an operation is refused.
-/
import Derived.Test.YtjjmooegpoeomaaWNxt
namespace Go.Proofs.Ytjjmooegpoeomaa
open Go.RowKit Go.Lib
set_option linter.unusedVariables false
set_option linter.unusedSimpArgs false

def bigK (a : ByteArray) : Bool := decide (24 < a.size)
def bigV (a : ByteArray) : Bool := decide (32 < a.size)
def badW (x : Wr) : Bool := bigK x.k || (!x.gone && bigV x.v)
def refW (ws : List Wr) : Int := if 8 < ws.length then 3 else if ws.any badW = true then 7 else 0
def refO (kind : Int) (k v o : ByteArray) (had : Bool) (ws : List Wr) : Int :=
  if kind = 1 ∨ kind = 3 ∨ kind = 5 then (if bigK k = true then 7 else 0)
  else if kind = 2 then (if (bigK k || bigV v) = true then 7 else 0)
  else if kind = 4 then (if (bigK k || bigV v || (had && bigV o)) = true then 7 else 0)
  else if kind = 6 then refW ws else 20
theorem bigk_any (a : ByteArray) (h : Fit a) (w : World) : Calls Try.prog 43 #[.string a] w fun e w' => e = .returned (.bool (bigK a)) ∧ w' = w := by
  unfold Fit at h
  go_enter Try.func43, Try.ntmps43
  go_wp2_with fail
  go_ret
  refine ⟨?_, rfl⟩
  unfold bigK
  by_cases q : 24 < a.size
  · have q2 : (24 : Int) < (a.size : Int) := by omega
    simp [q, q2]
  · have q2 : ¬ (24 : Int) < (a.size : Int) := by omega
    simp [q, q2]
theorem bigv_any (a : ByteArray) (h : Fit a) (w : World) : Calls Try.prog 44 #[.string a] w fun e w' => e = .returned (.bool (bigV a)) ∧ w' = w := by
  unfold Fit at h
  go_enter Try.func44, Try.ntmps44
  go_wp2_with fail
  go_ret
  refine ⟨?_, rfl⟩
  unfold bigV
  by_cases q : 32 < a.size
  · have q2 : (32 : Int) < (a.size : Int) := by omega
    simp [q, q2]
  · have q2 : ¬ (32 : Int) < (a.size : Int) := by omega
    simp [q, q2]

theorem Row.wr {w : World} {A : Option Addr} {ws : List Wr} (h : Row w A (wcs ws)) {j : Nat} {x : Wr} (hj : ws[j]? = some x) :
    ∃ b o, A = some ⟨b, o, none⟩ ∧ b < w.heap.size ∧ w.cell? ⟨b, o + j * 3, none⟩ = some (.string x.k) ∧ w.cell? ⟨b, o + j * 3 + 1, none⟩ = some (.string x.v) ∧ w.cell? ⟨b, o + j * 3 + 2, none⟩ = some (.bool x.gone) := by
  obtain ⟨b, o, hA, hb, h0⟩ := h (j * 3 + 0) (.string x.k) (by rw [wcs_at hj 0 (by decide)]; rfl)
  obtain ⟨b', o', hA', _, h1⟩ := h (j * 3 + 1) (.string x.v) (by rw [wcs_at hj 1 (by decide)]; rfl)
  obtain ⟨b2, o2, hA2, _, h2⟩ := h (j * 3 + 2) (.bool x.gone) (by rw [wcs_at hj 2 (by decide)]; rfl)
  rw [hA] at hA' hA2
  injection hA' with hA'
  injection hA' with e1 e2
  injection hA2 with hA2
  injection hA2 with e3 e4
  subst e1 e2 e3 e4
  exact ⟨b, o, hA, hb, h0, h1, h2⟩
theorem any_take {ws : List Wr} {j : Nat} {x : Wr} (hj : ws[j]? = some x) (h : (ws.take j).any badW = false) (hx : badW x = false) : (ws.take (j + 1)).any badW = false := by
  rw [List.take_add_one, List.any_append, h, hj]
  simp [hx]
theorem any_hit {ws : List Wr} {j : Nat} {x : Wr} (hj : ws[j]? = some x) (hx : badW x = true) : ws.any badW = true :=
  List.any_eq_true.2 ⟨x, List.mem_of_getElem? hj, hx⟩

set_option maxHeartbeats 2000000 in
theorem refw_any (ws : List Wr) (A : Option Addr) (cap : Nat) (w : World) (h : Row w A (wcs ws)) (hf : ∀ x ∈ ws, Fit x.k ∧ Fit x.v) (hn : ws.length ≤ 100000) :
    Calls Try.prog 45 #[.slice A ws.length cap] w fun e w' => e = .returned (.int .i64 (refW ws)) ∧ Turn No w w' := by
  have HR := Lib.hid (And.intro h hf)
  by_cases h8 : 8 < ws.length
  · have h8' : (8 : Int) < (ws.length : Int) := by omega
    have HZ : Hid (refW ws = 3) := Lib.hid (by unfold refW; rw [if_pos h8])
    clear h8 h hf
    go_enter Try.func45, Try.ntmps45
    go_wp2_with fail
    go_ret
    exact ⟨by rw [HZ.out]; rfl, Turn.refl _ _⟩
  · have h8' : ¬ ((8 : Int) < (ws.length : Int)) := by omega
    have HZ : Hid (refW ws = if ws.any badW = true then 7 else 0) := Lib.hid (by unfold refW; rw [if_neg h8])
    clear h8 h hf
    go_enter Try.func45, Try.ntmps45
    go_wp2_with fail
    go_loopw [10] (fun i wr => ∃ kk : Nat, kk ≤ ws.length ∧ i = .int .i64 (kk : Int) ∧ Hid (Turn No w wr ∧ (ws.take kk).any badW = false)) (fun i _ => ws.length - (RowKit.intOf i).toNat)
    case atStart => exact ⟨0, Nat.zero_le _, rfl, Lib.hid ⟨Turn.refl _ _, rfl⟩⟩
    case round =>
      obtain ⟨kk, hm, rfl, HP⟩ := hrel
      by_cases hlt : kk < ws.length
      · obtain ⟨x, hx⟩ : ∃ x, ws[kk]? = some x := ⟨ws[kk], List.getElem?_eq_getElem hlt⟩
        obtain ⟨b, off, hA, hb, x0, x1, x2⟩ := (HR.out.1.turn HP.out.1 fun _ _ _ h => h).wr hx
        have hfx := HR.out.2 x (List.mem_of_getElem? hx)
        have HX := Lib.hid hx
        obtain ⟨xk, xv, xg⟩ := x
        simp only at x0 x1 x2
        have tn : Turn No wr (wr.alloc (.cells #[.string xk, .string xv, .bool xg] 46)) := (Turn.refl _ _).alloc _
        have hAt := Lib.hid (At.new wr (.cells #[.string xk, .string xv, .bool xg] 46))
        have CK := Lib.hid fun W => bigk_any xk hfx.1 W
        have CV := Lib.hid fun W => bigv_any xv hfx.2 W
        have HB : Hid (badW ⟨xk, xv, xg⟩ = (bigK xk || (!xg && bigV xv))) := Lib.hid rfl
        have HT := Lib.hid (HP.out.1.trans tn)
        subst hA
        clear hb hfx hx tn
        go_upto_region 6 with fail
        generalize wr.alloc (.cells #[.string xk, .string xv, .bool xg] 46) = w2 at HT hAt ⊢
        generalize wr.heap.size = g at hAt ⊢
        clear x0 x1 x2
        have y0 := hAt.out.cell 0
        have y1 := hAt.out.cell 1
        have y2 := hAt.out.cell 2
        simp at y0 y1 y2
        cases hk : bigK xk with
        | true =>
          rw [hk] at CK HB
          go_wp2_with (go_at_call 43; refine (CK.out _).mono ?_; rintro e w' ⟨rfl, rfl⟩)
          go_ret
          have := any_hit HX.out (by rw [HB.out]; rfl)
          exact ⟨by rw [HZ.out, if_pos this]; rfl, HT.out⟩
        | false =>
          rw [hk] at CK HB
          clear hk
          cases xg with
          | true =>
            go_wp2_with (go_at_call 43; refine (CK.out _).mono ?_; rintro e w' ⟨rfl, rfl⟩)
            have HN := Lib.hid (And.intro HT.out (any_take HX.out HP.out.2 (by rw [HB.out]; rfl)))
            exact ⟨⟨kk + 1, by omega, by go_num, HN⟩, by simp [RowKit.intOf]; omega⟩
          | false =>
            cases hv : bigV xv with
            | true =>
              rw [hv] at CV HB
              clear hv
              go_wp2_with (first | (go_at_call 43; refine (CK.out _).mono ?_; rintro e w' ⟨rfl, rfl⟩) | (go_at_call 44; refine (CV.out _).mono ?_; rintro e w' ⟨rfl, rfl⟩))
              go_ret
              have := any_hit HX.out (by rw [HB.out]; rfl)
              exact ⟨by rw [HZ.out, if_pos this]; rfl, HT.out⟩
            | false =>
              rw [hv] at CV HB
              clear hv
              go_wp2_with (first | (go_at_call 43; refine (CK.out _).mono ?_; rintro e w' ⟨rfl, rfl⟩) | (go_at_call 44; refine (CV.out _).mono ?_; rintro e w' ⟨rfl, rfl⟩))
              have HN := Lib.hid (And.intro HT.out (any_take HX.out HP.out.2 (by rw [HB.out]; rfl)))
              exact ⟨⟨kk + 1, by omega, by go_num, HN⟩, by simp [RowKit.intOf]; omega⟩
      · obtain rfl : kk = ws.length := by omega
        have h0 := HP.out.2
        rw [List.take_length] at h0
        have H0 := Lib.hid h0
        clear h0
        go_wp2_with fail
        go_ret
        exact ⟨by rw [HZ.out, H0.out]; rfl, HP.out.1⟩

/-- An operation boxed. -/
theorem boxed_op (w : World) (o : Opx) : At (w.alloc (.cells o.cs.toArray 39)) w.heap.size (.cells o.cs.toArray 39 (0, 0)) := At.new _ _
set_option maxHeartbeats 2000000 in
theorem refused_any (kind : Int) (k v o : ByteArray) (had aft : Bool) (A : Option Addr) (cap : Nat) (ws : List Wr) (w : World) (h : Row w A (wcs ws)) (hk : Fit k) (hv : Fit v) (ho : Fit o) (hf : ∀ x ∈ ws, Fit x.k ∧ Fit x.v) (hn : ws.length ≤ 100000) :
    Calls Try.prog 18 #[.agg #[.int .u8 kind, .string k, .string v, .string o, .bool had, .bool aft, .slice A ws.length cap]] w fun e w' => e = .returned (.int .i64 (refO kind k v o had ws)) ∧ Turn No w w' := by
  have HT : Hid (Turn No w (w.alloc (.cells #[.int .u8 kind, .string k, .string v, .string o, .bool had, .bool aft, .slice A ws.length cap] 39))) := Lib.hid ((Turn.refl _ _).alloc _)
  have HA : Hid (At (w.alloc (.cells #[.int .u8 kind, .string k, .string v, .string o, .bool had, .bool aft, .slice A ws.length cap] 39)) w.heap.size (.cells #[.int .u8 kind, .string k, .string v, .string o, .bool had, .bool aft, .slice A ws.length cap] 39 (0, 0))) := Lib.hid (At.new _ _)
  have CK := Lib.hid fun W => bigk_any k hk W
  have CV := Lib.hid fun W => bigv_any v hv W
  have CO := Lib.hid fun W => bigv_any o ho W
  have CW := Lib.hid fun W (t : Turn No w W) => refw_any ws A cap W (h.turn t fun _ _ _ h => h) hf hn
  clear h hk hv ho hf hn
  go_enter Try.func18, Try.ntmps18
  go_upto_region 1 with fail
  generalize w.alloc (.cells #[.int .u8 kind, .string k, .string v, .string o, .bool had, .bool aft, .slice A ws.length cap] 39) = w1 at HT HA ⊢
  generalize w.heap.size = g at HA ⊢
  have y0 := HA.out.cell 0
  have y1 := HA.out.cell 1
  have y2 := HA.out.cell 2
  have y3 := HA.out.cell 3
  have y4 := HA.out.cell 4
  have y6 := HA.out.cell 6
  simp at y0 y1 y2 y3 y4 y6
  clear HA
  by_cases q1 : kind = 1
  · subst q1
    have HZ : Hid (refO 1 k v o had ws = if bigK k = true then 7 else 0) := Lib.hid (by unfold refO; rw [if_pos (by decide)])
    cases hk : bigK k with
    | true =>
      rw [hk] at CK HZ
      clear hk
      go_wp2_with (first | (go_at_call 43; refine (CK.out _).mono ?_; rintro e w' ⟨rfl, rfl⟩) | (go_at_call 44; (with_reducible refine (CV.out _).mono ?_); rintro e w' ⟨rfl, rfl⟩) | (go_at_call 44; (with_reducible refine (CO.out _).mono ?_); rintro e w' ⟨rfl, rfl⟩))
      go_ret
      exact ⟨by rw [HZ.out]; rfl, HT.out⟩
    | false =>
      rw [hk] at CK HZ
      clear hk
      go_wp2_with (first | (go_at_call 43; refine (CK.out _).mono ?_; rintro e w' ⟨rfl, rfl⟩) | (go_at_call 44; (with_reducible refine (CV.out _).mono ?_); rintro e w' ⟨rfl, rfl⟩) | (go_at_call 44; (with_reducible refine (CO.out _).mono ?_); rintro e w' ⟨rfl, rfl⟩))
      go_ret
      exact ⟨by rw [HZ.out]; rfl, HT.out⟩
  · by_cases q3 : kind = 3
    · subst q3
      have HZ : Hid (refO 3 k v o had ws = if bigK k = true then 7 else 0) := Lib.hid (by unfold refO; rw [if_pos (by decide)])
      cases hk : bigK k with
      | true =>
        rw [hk] at CK HZ
        clear hk
        go_wp2_with (first | (go_at_call 43; refine (CK.out _).mono ?_; rintro e w' ⟨rfl, rfl⟩) | (go_at_call 44; (with_reducible refine (CV.out _).mono ?_); rintro e w' ⟨rfl, rfl⟩) | (go_at_call 44; (with_reducible refine (CO.out _).mono ?_); rintro e w' ⟨rfl, rfl⟩))
        go_ret
        exact ⟨by rw [HZ.out]; rfl, HT.out⟩
      | false =>
        rw [hk] at CK HZ
        clear hk
        go_wp2_with (first | (go_at_call 43; refine (CK.out _).mono ?_; rintro e w' ⟨rfl, rfl⟩) | (go_at_call 44; (with_reducible refine (CV.out _).mono ?_); rintro e w' ⟨rfl, rfl⟩) | (go_at_call 44; (with_reducible refine (CO.out _).mono ?_); rintro e w' ⟨rfl, rfl⟩))
        go_ret
        exact ⟨by rw [HZ.out]; rfl, HT.out⟩
    · by_cases q5 : kind = 5
      · subst q5
        have HZ : Hid (refO 5 k v o had ws = if bigK k = true then 7 else 0) := Lib.hid (by unfold refO; rw [if_pos (by decide)])
        cases hk : bigK k with
        | true =>
          rw [hk] at CK HZ
          clear hk
          go_wp2_with (first | (go_at_call 43; refine (CK.out _).mono ?_; rintro e w' ⟨rfl, rfl⟩) | (go_at_call 44; (with_reducible refine (CV.out _).mono ?_); rintro e w' ⟨rfl, rfl⟩) | (go_at_call 44; (with_reducible refine (CO.out _).mono ?_); rintro e w' ⟨rfl, rfl⟩))
          go_ret
          exact ⟨by rw [HZ.out]; rfl, HT.out⟩
        | false =>
          rw [hk] at CK HZ
          clear hk
          go_wp2_with (first | (go_at_call 43; refine (CK.out _).mono ?_; rintro e w' ⟨rfl, rfl⟩) | (go_at_call 44; (with_reducible refine (CV.out _).mono ?_); rintro e w' ⟨rfl, rfl⟩) | (go_at_call 44; (with_reducible refine (CO.out _).mono ?_); rintro e w' ⟨rfl, rfl⟩))
          go_ret
          exact ⟨by rw [HZ.out]; rfl, HT.out⟩
      · by_cases q2 : kind = 2
        · subst q2
          have HZ : Hid (refO 2 k v o had ws = if (bigK k || bigV v) = true then 7 else 0) := Lib.hid (by unfold refO; rw [if_neg (by decide), if_pos rfl])
          cases hk : bigK k with
          | true =>
            rw [hk] at CK HZ
            clear hk
            go_wp2_with (first | (go_at_call 43; refine (CK.out _).mono ?_; rintro e w' ⟨rfl, rfl⟩) | (go_at_call 44; (with_reducible refine (CV.out _).mono ?_); rintro e w' ⟨rfl, rfl⟩) | (go_at_call 44; (with_reducible refine (CO.out _).mono ?_); rintro e w' ⟨rfl, rfl⟩))
            go_ret
            exact ⟨by rw [HZ.out]; rfl, HT.out⟩
          | false =>
            rw [hk] at CK HZ
            clear hk
            cases hv : bigV v with
            | true =>
              rw [hv] at CV HZ
              clear hv
              go_wp2_with (first | (go_at_call 43; refine (CK.out _).mono ?_; rintro e w' ⟨rfl, rfl⟩) | (go_at_call 44; (with_reducible refine (CV.out _).mono ?_); rintro e w' ⟨rfl, rfl⟩) | (go_at_call 44; (with_reducible refine (CO.out _).mono ?_); rintro e w' ⟨rfl, rfl⟩))
              go_ret
              exact ⟨by rw [HZ.out]; rfl, HT.out⟩
            | false =>
              rw [hv] at CV HZ
              clear hv
              go_wp2_with (first | (go_at_call 43; refine (CK.out _).mono ?_; rintro e w' ⟨rfl, rfl⟩) | (go_at_call 44; (with_reducible refine (CV.out _).mono ?_); rintro e w' ⟨rfl, rfl⟩) | (go_at_call 44; (with_reducible refine (CO.out _).mono ?_); rintro e w' ⟨rfl, rfl⟩))
              go_ret
              exact ⟨by rw [HZ.out]; rfl, HT.out⟩
        · by_cases q4 : kind = 4
          · subst q4
            have HZ : Hid (refO 4 k v o had ws = if (bigK k || bigV v || (had && bigV o)) = true then 7 else 0) := Lib.hid (by unfold refO; rw [if_neg (by decide), if_neg (by decide), if_pos rfl])
            cases hk : bigK k with
            | true =>
              rw [hk] at CK HZ
              clear hk
              go_wp2_with (first | (go_at_call 43; refine (CK.out _).mono ?_; rintro e w' ⟨rfl, rfl⟩) | (go_at_call 44; (with_reducible refine (CV.out _).mono ?_); rintro e w' ⟨rfl, rfl⟩) | (go_at_call 44; (with_reducible refine (CO.out _).mono ?_); rintro e w' ⟨rfl, rfl⟩))
              go_ret
              exact ⟨by rw [HZ.out]; rfl, HT.out⟩
            | false =>
              rw [hk] at CK HZ
              clear hk
              cases hv : bigV v with
              | true =>
                rw [hv] at CV HZ
                clear hv
                go_wp2_with (first | (go_at_call 43; refine (CK.out _).mono ?_; rintro e w' ⟨rfl, rfl⟩) | (go_at_call 44; (with_reducible refine (CV.out _).mono ?_); rintro e w' ⟨rfl, rfl⟩) | (go_at_call 44; (with_reducible refine (CO.out _).mono ?_); rintro e w' ⟨rfl, rfl⟩))
                go_ret
                exact ⟨by rw [HZ.out]; rfl, HT.out⟩
              | false =>
                rw [hv] at CV HZ
                clear hv
                cases had with
                | true =>
                  cases ho : bigV o with
                  | true =>
                    rw [ho] at CO HZ
                    clear ho
                    go_wp2_with (first | (go_at_call 43; refine (CK.out _).mono ?_; rintro e w' ⟨rfl, rfl⟩) | (go_at_call 44; (with_reducible refine (CV.out _).mono ?_); rintro e w' ⟨rfl, rfl⟩) | (go_at_call 44; (with_reducible refine (CO.out _).mono ?_); rintro e w' ⟨rfl, rfl⟩))
                    go_ret
                    exact ⟨by rw [HZ.out]; rfl, HT.out⟩
                  | false =>
                    rw [ho] at CO HZ
                    clear ho
                    go_wp2_with (first | (go_at_call 43; refine (CK.out _).mono ?_; rintro e w' ⟨rfl, rfl⟩) | (go_at_call 44; (with_reducible refine (CV.out _).mono ?_); rintro e w' ⟨rfl, rfl⟩) | (go_at_call 44; (with_reducible refine (CO.out _).mono ?_); rintro e w' ⟨rfl, rfl⟩))
                    go_ret
                    exact ⟨by rw [HZ.out]; rfl, HT.out⟩
                | false =>
                  go_wp2_with (first | (go_at_call 43; refine (CK.out _).mono ?_; rintro e w' ⟨rfl, rfl⟩) | (go_at_call 44; (with_reducible refine (CV.out _).mono ?_); rintro e w' ⟨rfl, rfl⟩) | (go_at_call 44; (with_reducible refine (CO.out _).mono ?_); rintro e w' ⟨rfl, rfl⟩))
                  go_ret
                  exact ⟨by rw [HZ.out]; rfl, HT.out⟩
          · by_cases q6 : kind = 6
            · subst q6
              have HZ : Hid (refO 6 k v o had ws = refW ws) := Lib.hid (by unfold refO; rw [if_neg (by decide), if_neg (by decide), if_neg (by decide), if_pos rfl])
              go_wp2_with (first | (go_at_call 43; refine (CK.out _).mono ?_; rintro e w' ⟨rfl, rfl⟩) | (go_at_call 45; refine (CW.out _ HT.out).mono ?_; rintro e w2 ⟨rfl, ht⟩; have HT2 := Lib.hid (HT.out.trans ht); clear ht))
              go_ret
              exact ⟨by rw [HZ.out]; rfl, HT2.out⟩
            · have HZ : Hid (refO kind k v o had ws = 20) := Lib.hid (by unfold refO; rw [if_neg (by omega), if_neg q2, if_neg q4, if_neg q6])
              go_wp2_with (first | (go_at_call 43; refine (CK.out _).mono ?_; rintro e w' ⟨rfl, rfl⟩) | (go_at_call 45; refine (CW.out _ HT.out).mono ?_; rintro e w2 ⟨rfl, ht⟩; have HT2 := Lib.hid (HT.out.trans ht); clear ht))
              go_ret
              exact ⟨by rw [HZ.out]; rfl, HT.out⟩
end Go.Proofs.Ytjjmooegpoeomaa
