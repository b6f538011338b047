/-
  next: the least key that is not below one, or above it; Len.
  Refused: by which error an operation is refused.
-/
import Derived.Test.YtllppkfeiifklaaJ4
namespace Go.Proofs.Ytllppkfeiifklaa
open Go.RowKit Go.Lib
set_option linter.unusedVariables false
set_option maxRecDepth 20000
set_option linter.unusedSimpArgs false

def nans : List Pr → Ans
  | p :: _ => ⟨0, true, p.k, p.v⟩
  | [] => ⟨0, false, ⟨#[]⟩, ⟨#[]⟩⟩
theorem drop_low (l : List Pr) (key : ByteArray) : l.drop (lowL l key).length = hiL l key := by
  have h := split_L l key
  have : (lowL l key ++ hiL l key).drop (lowL l key).length = hiL l key := List.drop_left
  rwa [h] at this
theorem nexts_0 (l : List Pr) (key : ByteArray) (aft : Bool) (h : (hasL l key && aft) = false) : nexts l key aft = l.drop (lowL l key).length := by
  unfold nexts
  rw [h, drop_low]
  rfl
theorem nexts_1 (l : List Pr) (key : ByteArray) (aft : Bool) (h : (hasL l key && aft) = true) : nexts l key aft = l.drop ((lowL l key).length + 1) := by
  unfold nexts
  rw [h, if_pos rfl, ← drop_low]
  simp
theorem low_le (l : List Pr) (key : ByteArray) : (lowL l key).length ≤ l.length := by have := len_L l key; omega
theorem low_lt {l : List Pr} {key : ByteArray} (h : hasL l key = true) : (lowL l key).length + 1 ≤ l.length := by
  obtain ⟨v, t, ht⟩ := has_true h
  have := len_L l key
  rw [ht, List.length_cons] at this
  omega
theorem nans_drop {l : List Pr} {i : Nat} {p : Pr} (h : l[i]? = some p) : nans (l.drop i) = ⟨0, true, p.k, p.v⟩ := by
  obtain ⟨hi, e⟩ := List.getElem?_eq_some_iff.1 h
  rw [List.drop_eq_getElem_cons hi, e]
  rfl
theorem nans_end {l : List Pr} : nans (l.drop l.length) = ⟨0, false, ⟨#[]⟩, ⟨#[]⟩⟩ := by
  rw [List.drop_length]
  rfl
set_option maxHeartbeats 2000000 in
theorem next_any {w : World} {Z mb : Nat} {rb : Option Nat} {l : List Pr} (h : Om w Z mb rb l) (key : ByteArray) (aft : Bool) :
    Calls Try.prog 69 #[.pointer (some ⟨mb, 0, none⟩), .string key, .bool aft] w fun e w' => e = .returned (nans (nexts l key aft)).val ∧ Turn No w w' := by
  have HR := Lib.hid (Res.start w)
  have HM := Lib.hid h
  have CF := Lib.hid fun (W : World) (t : Turn No w W) => find_any (h.no t) key
  have hle := low_le l key
  have hfew := h.few
  clear h
  go_enter Try.func69, Try.ntmps69
  go_upto_region 1 with fail
  unfold ans0 at HR
  generalize w.alloc (.cells #[.int .i64 0, .bool false, .string ⟨#[]⟩, .string ⟨#[]⟩] 38) = w1 at HR ⊢
  generalize w.heap.size = g at HR ⊢
  go_upto_region 2 with (go_at_call 96; refine (CF.out _ HR.out.tu).mono ?_; rintro e w2 ⟨rfl, ht⟩; have H2 := Lib.hid (HR.out.no ht); clear ht)
  clear CF HR
  obtain ⟨A, cap, hm, hr, _⟩ := (HM.out.no H2.out.tu).rowed
  have HR2 := Lib.hid (row_of_own hr)
  have m0 := hm.cell 0
  simp only [List.getElem?_toArray, List.getElem?_cons_zero] at m0
  clear hm hr
  have f0 := H2.out.at_.thawed 0
  have f1 := H2.out.at_.thawed 1
  have f2 := H2.out.at_.thawed 2
  have f3 := H2.out.at_.thawed 3
  have d0 := H2.out.at_.cell 0
  have d1 := H2.out.at_.cell 1
  have d2 := H2.out.at_.cell 2
  have d3 := H2.out.at_.cell 3
  simp at d0 d1 d2 d3
  have hlt1 := fun h => low_lt (l := l) (key := key) h
  obtain ⟨c, hc⟩ : ∃ c, (lowL l key).length = c := ⟨_, rfl⟩
  obtain ⟨n, hn⟩ : ∃ n, l.length = n := ⟨_, rfl⟩
  have HN := Lib.hid hn
  rw [hn] at hle m0 hfew
  rw [hn, hc] at hlt1
  rw [hc] at hle ⊢
  clear hn
  cases hh : hasL l key with
  | false =>
    clear hlt1
    have hat : (c) ≤ n := by omega
    have HX : Hid (nexts l key aft = l.drop ((c))) := Lib.hid (by rw [← hc]; exact nexts_0 l key aft (by rw [hh]; rfl))
    clear hh hc
    by_cases hq : (c) = n
    · have HQ := Lib.hid hq
      have hqi : (c : Int) = (n : Int) := by omega
      clear hat hq
      go_wp2_with fail
      have HE := Lib.hid (H2.out.all (.int .i64 0) (.bool false) (.string ⟨#[]⟩) (.string ⟨#[]⟩))
      clear H2 f0 f1 f2 f3 d0 d1 d2 d3
      generalize (((w2.setCell ⟨g, 0, none⟩ (.int .i64 0)).setCell ⟨g, 1, none⟩ (.bool false)).setCell ⟨g, 2, none⟩ (.string ⟨#[]⟩)).setCell ⟨g, 3, none⟩ (.string ⟨#[]⟩) = w3 at HE ⊢
      (try simp only [Exit.inBlock, Exit.then])
      refine bodyPost_ret (results_cell_row rfl _ _ g 38 _ (0, 0) _ (by rfl) HE.out.at_ Try.underlying38 rfl (by kernel_rfl)) rfl ?_
      exact ⟨by rw [HX.out, HQ.out, ← HN.out, nans_end]; rfl, HE.out.tu⟩
    · have hlt : (c) < n := by omega
      have hqi : ¬ ((c : Int) = (n : Int)) := by omega
      have hli : (c : Int) < (n : Int) := by omega
      obtain ⟨p, hp⟩ : ∃ p, l[(c)]? = some p := ⟨l[(c)]'(by rw [HN.out]; exact hlt), List.getElem?_eq_getElem (by rw [HN.out]; exact hlt)⟩
      obtain ⟨b, off, hA, hb, x0, x1⟩ := HR2.out.pair hp
      have hfp := HM.out.fit p (List.mem_of_getElem? hp)
      have HP : Hid (nans (l.drop ((c))) = ⟨0, true, p.k, p.v⟩) := Lib.hid (nans_drop hp)
      obtain ⟨pk, pv⟩ := p
      have CL : Hid (∀ W, Turn No w2 W → Calls Try.prog 92 #[.agg #[.string pk, .string pv]] W fun e w' => e = .returned (.agg #[.string pk, .string pv]) ∧ Turn No W w') := Lib.hid fun W _ => clonePair_any pk pv hfp.1 hfp.2 W
      subst hA
      simp only at x0 x1
      clear hb hp hfp hq HR2 HM hat
      go_wp2_with (go_at_call 92; refine (CL.out _ (Turn.refl _ _)).mono ?_; rintro e w3 ⟨rfl, ht⟩; have H3 := Lib.hid ((H2.out.no ht).no ((Turn.refl No _).alloc (.cells #[.string pk, .string pv] 47))); clear ht; have f0 := H3.out.at_.thawed 0; have f1 := H3.out.at_.thawed 1; have f2 := H3.out.at_.thawed 2; have f3 := H3.out.at_.thawed 3; have d0 := H3.out.at_.cell 0; have d1 := H3.out.at_.cell 1; have d2 := H3.out.at_.cell 2; have d3 := H3.out.at_.cell 3; simp at d0 d1 d2 d3)
      have HE := Lib.hid (H3.out.all (.int .i64 0) (.bool true) (.string pk) (.string pv))
      clear H3 f0 f1 f2 f3 d0 d1 d2 d3
      generalize ((((w3.alloc (.cells #[.string pk, .string pv] 47)).setCell ⟨g, 0, none⟩ (.int .i64 0)).setCell ⟨g, 1, none⟩ (.bool true)).setCell ⟨g, 2, none⟩ (.string pk)).setCell ⟨g, 3, none⟩ (.string pv) = w4 at HE ⊢
      (try simp only [Exit.inBlock, Exit.then])
      refine bodyPost_ret (results_cell_row rfl _ _ g 38 _ (0, 0) _ (by rfl) HE.out.at_ Try.underlying38 rfl (by kernel_rfl)) rfl ?_
      exact ⟨by rw [HX.out, HP.out]; rfl, HE.out.tu⟩
  | true =>
    have hl1 := hlt1 hh
    clear hlt1
    cases aft with
    | false =>
      have hat : (c) ≤ n := by omega
      have HX : Hid (nexts l key false = l.drop ((c))) := Lib.hid (by rw [← hc]; exact nexts_0 l key false (by rw [hh]; rfl))
      clear hh hc
      by_cases hq : (c) = n
      · exfalso; omega
      · have hlt : (c) < n := by omega
        have hqi : ¬ ((c : Int) = (n : Int)) := by omega
        have hli : (c : Int) < (n : Int) := by omega
        obtain ⟨p, hp⟩ : ∃ p, l[(c)]? = some p := ⟨l[(c)]'(by rw [HN.out]; exact hlt), List.getElem?_eq_getElem (by rw [HN.out]; exact hlt)⟩
        obtain ⟨b, off, hA, hb, x0, x1⟩ := HR2.out.pair hp
        have hfp := HM.out.fit p (List.mem_of_getElem? hp)
        have HP : Hid (nans (l.drop ((c))) = ⟨0, true, p.k, p.v⟩) := Lib.hid (nans_drop hp)
        obtain ⟨pk, pv⟩ := p
        have CL : Hid (∀ W, Turn No w2 W → Calls Try.prog 92 #[.agg #[.string pk, .string pv]] W fun e w' => e = .returned (.agg #[.string pk, .string pv]) ∧ Turn No W w') := Lib.hid fun W _ => clonePair_any pk pv hfp.1 hfp.2 W
        subst hA
        simp only at x0 x1
        clear hb hp hfp hq HR2 HM hat
        go_wp2_with (go_at_call 92; refine (CL.out _ (Turn.refl _ _)).mono ?_; rintro e w3 ⟨rfl, ht⟩; have H3 := Lib.hid ((H2.out.no ht).no ((Turn.refl No _).alloc (.cells #[.string pk, .string pv] 47))); clear ht; have f0 := H3.out.at_.thawed 0; have f1 := H3.out.at_.thawed 1; have f2 := H3.out.at_.thawed 2; have f3 := H3.out.at_.thawed 3; have d0 := H3.out.at_.cell 0; have d1 := H3.out.at_.cell 1; have d2 := H3.out.at_.cell 2; have d3 := H3.out.at_.cell 3; simp at d0 d1 d2 d3)
        have HE := Lib.hid (H3.out.all (.int .i64 0) (.bool true) (.string pk) (.string pv))
        clear H3 f0 f1 f2 f3 d0 d1 d2 d3
        generalize ((((w3.alloc (.cells #[.string pk, .string pv] 47)).setCell ⟨g, 0, none⟩ (.int .i64 0)).setCell ⟨g, 1, none⟩ (.bool true)).setCell ⟨g, 2, none⟩ (.string pk)).setCell ⟨g, 3, none⟩ (.string pv) = w4 at HE ⊢
        (try simp only [Exit.inBlock, Exit.then])
        refine bodyPost_ret (results_cell_row rfl _ _ g 38 _ (0, 0) _ (by rfl) HE.out.at_ Try.underlying38 rfl (by kernel_rfl)) rfl ?_
        exact ⟨by rw [HX.out, HP.out]; rfl, HE.out.tu⟩
    | true =>
      have hat : (c + 1) ≤ n := by omega
      have HX : Hid (nexts l key true = l.drop ((c + 1))) := Lib.hid (by rw [← hc]; exact nexts_1 l key true (by rw [hh]; rfl))
      clear hh hc
      by_cases hq : (c + 1) = n
      · have HQ := Lib.hid hq
        have hqi : (c : Int) + 1 = (n : Int) := by omega
        clear hat hq
        go_wp2_with fail
        have HE := Lib.hid (H2.out.all (.int .i64 0) (.bool false) (.string ⟨#[]⟩) (.string ⟨#[]⟩))
        clear H2 f0 f1 f2 f3 d0 d1 d2 d3
        generalize (((w2.setCell ⟨g, 0, none⟩ (.int .i64 0)).setCell ⟨g, 1, none⟩ (.bool false)).setCell ⟨g, 2, none⟩ (.string ⟨#[]⟩)).setCell ⟨g, 3, none⟩ (.string ⟨#[]⟩) = w3 at HE ⊢
        (try simp only [Exit.inBlock, Exit.then])
        refine bodyPost_ret (results_cell_row rfl _ _ g 38 _ (0, 0) _ (by rfl) HE.out.at_ Try.underlying38 rfl (by kernel_rfl)) rfl ?_
        exact ⟨by rw [HX.out, HQ.out, ← HN.out, nans_end]; rfl, HE.out.tu⟩
      · have hlt : (c + 1) < n := by omega
        have hqi : ¬ ((c : Int) + 1 = (n : Int)) := by omega
        have hli : (c : Int) + 1 < (n : Int) := by omega
        obtain ⟨p, hp⟩ : ∃ p, l[(c + 1)]? = some p := ⟨l[(c + 1)]'(by rw [HN.out]; exact hlt), List.getElem?_eq_getElem (by rw [HN.out]; exact hlt)⟩
        obtain ⟨b, off, hA, hb, x0, x1⟩ := HR2.out.pair hp
        have hfp := HM.out.fit p (List.mem_of_getElem? hp)
        have HP : Hid (nans (l.drop ((c + 1))) = ⟨0, true, p.k, p.v⟩) := Lib.hid (nans_drop hp)
        obtain ⟨pk, pv⟩ := p
        have CL : Hid (∀ W, Turn No w2 W → Calls Try.prog 92 #[.agg #[.string pk, .string pv]] W fun e w' => e = .returned (.agg #[.string pk, .string pv]) ∧ Turn No W w') := Lib.hid fun W _ => clonePair_any pk pv hfp.1 hfp.2 W
        subst hA
        simp only at x0 x1
        clear hb hp hfp hq HR2 HM hat
        go_wp2_with (go_at_call 92; refine (CL.out _ (Turn.refl _ _)).mono ?_; rintro e w3 ⟨rfl, ht⟩; have H3 := Lib.hid ((H2.out.no ht).no ((Turn.refl No _).alloc (.cells #[.string pk, .string pv] 47))); clear ht; have f0 := H3.out.at_.thawed 0; have f1 := H3.out.at_.thawed 1; have f2 := H3.out.at_.thawed 2; have f3 := H3.out.at_.thawed 3; have d0 := H3.out.at_.cell 0; have d1 := H3.out.at_.cell 1; have d2 := H3.out.at_.cell 2; have d3 := H3.out.at_.cell 3; simp at d0 d1 d2 d3)
        have HE := Lib.hid (H3.out.all (.int .i64 0) (.bool true) (.string pk) (.string pv))
        clear H3 f0 f1 f2 f3 d0 d1 d2 d3
        generalize ((((w3.alloc (.cells #[.string pk, .string pv] 47)).setCell ⟨g, 0, none⟩ (.int .i64 0)).setCell ⟨g, 1, none⟩ (.bool true)).setCell ⟨g, 2, none⟩ (.string pk)).setCell ⟨g, 3, none⟩ (.string pv) = w4 at HE ⊢
        (try simp only [Exit.inBlock, Exit.then])
        refine bodyPost_ret (results_cell_row rfl _ _ g 38 _ (0, 0) _ (by rfl) HE.out.at_ Try.underlying38 rfl (by kernel_rfl)) rfl ?_
        exact ⟨by rw [HX.out, HP.out]; rfl, HE.out.tu⟩
end Go.Proofs.Ytllppkfeiifklaa
namespace Go.Proofs.Ytllppkfeiifklaa
open Go.RowKit Go.Lib
set_option linter.unusedVariables false
set_option maxRecDepth 20000
set_option linter.unusedSimpArgs false

def bigK (a : ByteArray) : Bool := decide (24 < a.size)
def bigV (a : ByteArray) : Bool := decide (32 < a.size)
def badW (x : Wr) : Bool := bigK x.k || (!x.gone && bigV x.v)
def refW (ws : List Wr) : Int := if 8 < ws.length then 3 else if ws.any badW = true then 7 else 0
def refO (kind : Int) (k v o : ByteArray) (had : Bool) (ws : List Wr) : Int :=
  if kind = 1 ∨ kind = 3 ∨ kind = 5 then (if bigK k = true then 7 else 0)
  else if kind = 2 then (if (bigK k || bigV v) = true then 7 else 0)
  else if kind = 4 then (if (bigK k || bigV v || (had && bigV o)) = true then 7 else 0)
  else if kind = 6 then refW ws else 20
theorem bigk_any (a : ByteArray) (h : Fit a) (w : World) : Calls Try.prog 93 #[.string a] w fun e w' => e = .returned (.bool (bigK a)) ∧ w' = w := by
  unfold Fit at h
  go_enter Try.func93, Try.ntmps93
  go_wp2_with fail
  go_ret
  refine ⟨?_, rfl⟩
  unfold bigK
  by_cases q : 24 < a.size
  · have q2 : (24 : Int) < (a.size : Int) := by omega
    simp [q, q2]
  · have q2 : ¬ (24 : Int) < (a.size : Int) := by omega
    simp [q, q2]
theorem bigv_any (a : ByteArray) (h : Fit a) (w : World) : Calls Try.prog 94 #[.string a] w fun e w' => e = .returned (.bool (bigV a)) ∧ w' = w := by
  unfold Fit at h
  go_enter Try.func94, Try.ntmps94
  go_wp2_with fail
  go_ret
  refine ⟨?_, rfl⟩
  unfold bigV
  by_cases q : 32 < a.size
  · have q2 : (32 : Int) < (a.size : Int) := by omega
    simp [q, q2]
  · have q2 : ¬ (32 : Int) < (a.size : Int) := by omega
    simp [q, q2]

theorem Row.wr {w : World} {A : Option Addr} {ws : List Wr} (h : Row w A (wcs ws)) {j : Nat} {x : Wr} (hj : ws[j]? = some x) :
    ∃ b o, A = some ⟨b, o, none⟩ ∧ b < w.heap.size ∧ w.cell? ⟨b, o + j * 3, none⟩ = some (.string x.k) ∧ w.cell? ⟨b, o + j * 3 + 1, none⟩ = some (.string x.v) ∧ w.cell? ⟨b, o + j * 3 + 2, none⟩ = some (.bool x.gone) := by
  obtain ⟨b, o, hA, hb, h0⟩ := h (j * 3 + 0) (.string x.k) (by rw [wcs_at hj 0 (by decide)]; rfl)
  obtain ⟨b', o', hA', _, h1⟩ := h (j * 3 + 1) (.string x.v) (by rw [wcs_at hj 1 (by decide)]; rfl)
  obtain ⟨b2, o2, hA2, _, h2⟩ := h (j * 3 + 2) (.bool x.gone) (by rw [wcs_at hj 2 (by decide)]; rfl)
  rw [hA] at hA' hA2
  injection hA' with hA'
  injection hA' with e1 e2
  injection hA2 with hA2
  injection hA2 with e3 e4
  subst e1 e2 e3 e4
  exact ⟨b, o, hA, hb, h0, h1, h2⟩
theorem any_take {ws : List Wr} {j : Nat} {x : Wr} (hj : ws[j]? = some x) (h : (ws.take j).any badW = false) (hx : badW x = false) : (ws.take (j + 1)).any badW = false := by
  rw [List.take_add_one, List.any_append, h, hj]
  simp [hx]
theorem any_hit {ws : List Wr} {j : Nat} {x : Wr} (hj : ws[j]? = some x) (hx : badW x = true) : ws.any badW = true :=
  List.any_eq_true.2 ⟨x, List.mem_of_getElem? hj, hx⟩

set_option maxHeartbeats 2000000 in
theorem refw_any (ws : List Wr) (A : Option Addr) (cap : Nat) (w : World) (h : Row w A (wcs ws)) (hf : ∀ x ∈ ws, Fit x.k ∧ Fit x.v) (hn : ws.length ≤ 100000) :
    Calls Try.prog 95 #[.slice A ws.length cap] w fun e w' => e = .returned (.int .i64 (refW ws)) ∧ Turn No w w' := by
  have HR := Lib.hid (And.intro h hf)
  by_cases h8 : 8 < ws.length
  · have h8' : (8 : Int) < (ws.length : Int) := by omega
    have HZ : Hid (refW ws = 3) := Lib.hid (by unfold refW; rw [if_pos h8])
    clear h8 h hf
    go_enter Try.func95, Try.ntmps95
    go_wp2_with fail
    go_ret
    exact ⟨by rw [HZ.out]; rfl, Turn.refl _ _⟩
  · have h8' : ¬ ((8 : Int) < (ws.length : Int)) := by omega
    have HZ : Hid (refW ws = if ws.any badW = true then 7 else 0) := Lib.hid (by unfold refW; rw [if_neg h8])
    clear h8 h hf
    go_enter Try.func95, Try.ntmps95
    go_wp2_with fail
    go_loopw [10] (fun i wr => ∃ kk : Nat, kk ≤ ws.length ∧ i = .int .i64 (kk : Int) ∧ Hid (Turn No w wr ∧ (ws.take kk).any badW = false)) (fun i _ => ws.length - (RowKit.intOf i).toNat)
    case atStart => exact ⟨0, Nat.zero_le _, rfl, Lib.hid ⟨Turn.refl _ _, rfl⟩⟩
    case round =>
      obtain ⟨kk, hm, rfl, HP⟩ := hrel
      by_cases hlt : kk < ws.length
      · obtain ⟨x, hx⟩ : ∃ x, ws[kk]? = some x := ⟨ws[kk], List.getElem?_eq_getElem hlt⟩
        obtain ⟨b, off, hA, hb, x0, x1, x2⟩ := (HR.out.1.turn HP.out.1 fun _ _ _ h => h).wr hx
        have hfx := HR.out.2 x (List.mem_of_getElem? hx)
        have HX := Lib.hid hx
        obtain ⟨xk, xv, xg⟩ := x
        simp only at x0 x1 x2
        have tn : Turn No wr (wr.alloc (.cells #[.string xk, .string xv, .bool xg] 68)) := (Turn.refl _ _).alloc _
        have hAt := Lib.hid (At.new wr (.cells #[.string xk, .string xv, .bool xg] 68))
        have CK := Lib.hid fun W => bigk_any xk hfx.1 W
        have CV := Lib.hid fun W => bigv_any xv hfx.2 W
        have HB : Hid (badW ⟨xk, xv, xg⟩ = (bigK xk || (!xg && bigV xv))) := Lib.hid rfl
        have HT := Lib.hid (HP.out.1.trans tn)
        subst hA
        clear hb hfx hx tn
        go_upto_region 6 with fail
        generalize wr.alloc (.cells #[.string xk, .string xv, .bool xg] 68) = w2 at HT hAt ⊢
        generalize wr.heap.size = g at hAt ⊢
        clear x0 x1 x2
        have y0 := hAt.out.cell 0
        have y1 := hAt.out.cell 1
        have y2 := hAt.out.cell 2
        simp at y0 y1 y2
        cases hk : bigK xk with
        | true =>
          rw [hk] at CK HB
          go_wp2_with (go_at_call 93; refine (CK.out _).mono ?_; rintro e w' ⟨rfl, rfl⟩)
          go_ret
          have := any_hit HX.out (by rw [HB.out]; rfl)
          exact ⟨by rw [HZ.out, if_pos this]; rfl, HT.out⟩
        | false =>
          rw [hk] at CK HB
          clear hk
          cases xg with
          | true =>
            go_wp2_with (go_at_call 93; refine (CK.out _).mono ?_; rintro e w' ⟨rfl, rfl⟩)
            have HN := Lib.hid (And.intro HT.out (any_take HX.out HP.out.2 (by rw [HB.out]; rfl)))
            exact ⟨⟨kk + 1, by omega, by go_num, HN⟩, by simp [RowKit.intOf]; omega⟩
          | false =>
            cases hv : bigV xv with
            | true =>
              rw [hv] at CV HB
              clear hv
              go_wp2_with (first | (go_at_call 93; refine (CK.out _).mono ?_; rintro e w' ⟨rfl, rfl⟩) | (go_at_call 94; refine (CV.out _).mono ?_; rintro e w' ⟨rfl, rfl⟩))
              go_ret
              have := any_hit HX.out (by rw [HB.out]; rfl)
              exact ⟨by rw [HZ.out, if_pos this]; rfl, HT.out⟩
            | false =>
              rw [hv] at CV HB
              clear hv
              go_wp2_with (first | (go_at_call 93; refine (CK.out _).mono ?_; rintro e w' ⟨rfl, rfl⟩) | (go_at_call 94; refine (CV.out _).mono ?_; rintro e w' ⟨rfl, rfl⟩))
              have HN := Lib.hid (And.intro HT.out (any_take HX.out HP.out.2 (by rw [HB.out]; rfl)))
              exact ⟨⟨kk + 1, by omega, by go_num, HN⟩, by simp [RowKit.intOf]; omega⟩
      · obtain rfl : kk = ws.length := by omega
        have h0 := HP.out.2
        rw [List.take_length] at h0
        have H0 := Lib.hid h0
        clear h0
        go_wp2_with fail
        go_ret
        exact ⟨by rw [HZ.out, H0.out]; rfl, HP.out.1⟩

/-- An operation boxed. -/
theorem boxed_op (w : World) (o : Opx) : At (w.alloc (.cells o.cs.toArray 34)) w.heap.size (.cells o.cs.toArray 34 (0, 0)) := At.new _ _
set_option maxHeartbeats 2000000 in
theorem refused_any (kind : Int) (k v o : ByteArray) (had aft : Bool) (A : Option Addr) (cap : Nat) (ws : List Wr) (w : World) (h : Row w A (wcs ws)) (hk : Fit k) (hv : Fit v) (ho : Fit o) (hf : ∀ x ∈ ws, Fit x.k ∧ Fit x.v) (hn : ws.length ≤ 100000) :
    Calls Try.prog 64 #[.agg #[.int .u8 kind, .string k, .string v, .string o, .bool had, .bool aft, .slice A ws.length cap]] w fun e w' => e = .returned (.int .i64 (refO kind k v o had ws)) ∧ Turn No w w' := by
  have HT : Hid (Turn No w (w.alloc (.cells #[.int .u8 kind, .string k, .string v, .string o, .bool had, .bool aft, .slice A ws.length cap] 34))) := Lib.hid ((Turn.refl _ _).alloc _)
  have HA : Hid (At (w.alloc (.cells #[.int .u8 kind, .string k, .string v, .string o, .bool had, .bool aft, .slice A ws.length cap] 34)) w.heap.size (.cells #[.int .u8 kind, .string k, .string v, .string o, .bool had, .bool aft, .slice A ws.length cap] 34 (0, 0))) := Lib.hid (At.new _ _)
  have CK := Lib.hid fun W => bigk_any k hk W
  have CV := Lib.hid fun W => bigv_any v hv W
  have CO := Lib.hid fun W => bigv_any o ho W
  have CW := Lib.hid fun W (t : Turn No w W) => refw_any ws A cap W (h.turn t fun _ _ _ h => h) hf hn
  clear h hk hv ho hf hn
  go_enter Try.func64, Try.ntmps64
  go_upto_region 1 with fail
  generalize w.alloc (.cells #[.int .u8 kind, .string k, .string v, .string o, .bool had, .bool aft, .slice A ws.length cap] 34) = w1 at HT HA ⊢
  generalize w.heap.size = g at HA ⊢
  have y0 := HA.out.cell 0
  have y1 := HA.out.cell 1
  have y2 := HA.out.cell 2
  have y3 := HA.out.cell 3
  have y4 := HA.out.cell 4
  have y6 := HA.out.cell 6
  simp at y0 y1 y2 y3 y4 y6
  clear HA
  by_cases q1 : kind = 1
  · subst q1
    have HZ : Hid (refO 1 k v o had ws = if bigK k = true then 7 else 0) := Lib.hid (by unfold refO; rw [if_pos (by decide)])
    cases hk : bigK k with
    | true =>
      rw [hk] at CK HZ
      clear hk
      go_wp2_with (first | (go_at_call 93; refine (CK.out _).mono ?_; rintro e w' ⟨rfl, rfl⟩) | (go_at_call 94; (with_reducible refine (CV.out _).mono ?_); rintro e w' ⟨rfl, rfl⟩) | (go_at_call 94; (with_reducible refine (CO.out _).mono ?_); rintro e w' ⟨rfl, rfl⟩))
      go_ret
      exact ⟨by rw [HZ.out]; rfl, HT.out⟩
    | false =>
      rw [hk] at CK HZ
      clear hk
      go_wp2_with (first | (go_at_call 93; refine (CK.out _).mono ?_; rintro e w' ⟨rfl, rfl⟩) | (go_at_call 94; (with_reducible refine (CV.out _).mono ?_); rintro e w' ⟨rfl, rfl⟩) | (go_at_call 94; (with_reducible refine (CO.out _).mono ?_); rintro e w' ⟨rfl, rfl⟩))
      go_ret
      exact ⟨by rw [HZ.out]; rfl, HT.out⟩
  · by_cases q3 : kind = 3
    · subst q3
      have HZ : Hid (refO 3 k v o had ws = if bigK k = true then 7 else 0) := Lib.hid (by unfold refO; rw [if_pos (by decide)])
      cases hk : bigK k with
      | true =>
        rw [hk] at CK HZ
        clear hk
        go_wp2_with (first | (go_at_call 93; refine (CK.out _).mono ?_; rintro e w' ⟨rfl, rfl⟩) | (go_at_call 94; (with_reducible refine (CV.out _).mono ?_); rintro e w' ⟨rfl, rfl⟩) | (go_at_call 94; (with_reducible refine (CO.out _).mono ?_); rintro e w' ⟨rfl, rfl⟩))
        go_ret
        exact ⟨by rw [HZ.out]; rfl, HT.out⟩
      | false =>
        rw [hk] at CK HZ
        clear hk
        go_wp2_with (first | (go_at_call 93; refine (CK.out _).mono ?_; rintro e w' ⟨rfl, rfl⟩) | (go_at_call 94; (with_reducible refine (CV.out _).mono ?_); rintro e w' ⟨rfl, rfl⟩) | (go_at_call 94; (with_reducible refine (CO.out _).mono ?_); rintro e w' ⟨rfl, rfl⟩))
        go_ret
        exact ⟨by rw [HZ.out]; rfl, HT.out⟩
    · by_cases q5 : kind = 5
      · subst q5
        have HZ : Hid (refO 5 k v o had ws = if bigK k = true then 7 else 0) := Lib.hid (by unfold refO; rw [if_pos (by decide)])
        cases hk : bigK k with
        | true =>
          rw [hk] at CK HZ
          clear hk
          go_wp2_with (first | (go_at_call 93; refine (CK.out _).mono ?_; rintro e w' ⟨rfl, rfl⟩) | (go_at_call 94; (with_reducible refine (CV.out _).mono ?_); rintro e w' ⟨rfl, rfl⟩) | (go_at_call 94; (with_reducible refine (CO.out _).mono ?_); rintro e w' ⟨rfl, rfl⟩))
          go_ret
          exact ⟨by rw [HZ.out]; rfl, HT.out⟩
        | false =>
          rw [hk] at CK HZ
          clear hk
          go_wp2_with (first | (go_at_call 93; refine (CK.out _).mono ?_; rintro e w' ⟨rfl, rfl⟩) | (go_at_call 94; (with_reducible refine (CV.out _).mono ?_); rintro e w' ⟨rfl, rfl⟩) | (go_at_call 94; (with_reducible refine (CO.out _).mono ?_); rintro e w' ⟨rfl, rfl⟩))
          go_ret
          exact ⟨by rw [HZ.out]; rfl, HT.out⟩
      · by_cases q2 : kind = 2
        · subst q2
          have HZ : Hid (refO 2 k v o had ws = if (bigK k || bigV v) = true then 7 else 0) := Lib.hid (by unfold refO; rw [if_neg (by decide), if_pos rfl])
          cases hk : bigK k with
          | true =>
            rw [hk] at CK HZ
            clear hk
            go_wp2_with (first | (go_at_call 93; refine (CK.out _).mono ?_; rintro e w' ⟨rfl, rfl⟩) | (go_at_call 94; (with_reducible refine (CV.out _).mono ?_); rintro e w' ⟨rfl, rfl⟩) | (go_at_call 94; (with_reducible refine (CO.out _).mono ?_); rintro e w' ⟨rfl, rfl⟩))
            go_ret
            exact ⟨by rw [HZ.out]; rfl, HT.out⟩
          | false =>
            rw [hk] at CK HZ
            clear hk
            cases hv : bigV v with
            | true =>
              rw [hv] at CV HZ
              clear hv
              go_wp2_with (first | (go_at_call 93; refine (CK.out _).mono ?_; rintro e w' ⟨rfl, rfl⟩) | (go_at_call 94; (with_reducible refine (CV.out _).mono ?_); rintro e w' ⟨rfl, rfl⟩) | (go_at_call 94; (with_reducible refine (CO.out _).mono ?_); rintro e w' ⟨rfl, rfl⟩))
              go_ret
              exact ⟨by rw [HZ.out]; rfl, HT.out⟩
            | false =>
              rw [hv] at CV HZ
              clear hv
              go_wp2_with (first | (go_at_call 93; refine (CK.out _).mono ?_; rintro e w' ⟨rfl, rfl⟩) | (go_at_call 94; (with_reducible refine (CV.out _).mono ?_); rintro e w' ⟨rfl, rfl⟩) | (go_at_call 94; (with_reducible refine (CO.out _).mono ?_); rintro e w' ⟨rfl, rfl⟩))
              go_ret
              exact ⟨by rw [HZ.out]; rfl, HT.out⟩
        · by_cases q4 : kind = 4
          · subst q4
            have HZ : Hid (refO 4 k v o had ws = if (bigK k || bigV v || (had && bigV o)) = true then 7 else 0) := Lib.hid (by unfold refO; rw [if_neg (by decide), if_neg (by decide), if_pos rfl])
            cases hk : bigK k with
            | true =>
              rw [hk] at CK HZ
              clear hk
              go_wp2_with (first | (go_at_call 93; refine (CK.out _).mono ?_; rintro e w' ⟨rfl, rfl⟩) | (go_at_call 94; (with_reducible refine (CV.out _).mono ?_); rintro e w' ⟨rfl, rfl⟩) | (go_at_call 94; (with_reducible refine (CO.out _).mono ?_); rintro e w' ⟨rfl, rfl⟩))
              go_ret
              exact ⟨by rw [HZ.out]; rfl, HT.out⟩
            | false =>
              rw [hk] at CK HZ
              clear hk
              cases hv : bigV v with
              | true =>
                rw [hv] at CV HZ
                clear hv
                go_wp2_with (first | (go_at_call 93; refine (CK.out _).mono ?_; rintro e w' ⟨rfl, rfl⟩) | (go_at_call 94; (with_reducible refine (CV.out _).mono ?_); rintro e w' ⟨rfl, rfl⟩) | (go_at_call 94; (with_reducible refine (CO.out _).mono ?_); rintro e w' ⟨rfl, rfl⟩))
                go_ret
                exact ⟨by rw [HZ.out]; rfl, HT.out⟩
              | false =>
                rw [hv] at CV HZ
                clear hv
                cases had with
                | true =>
                  cases ho : bigV o with
                  | true =>
                    rw [ho] at CO HZ
                    clear ho
                    go_wp2_with (first | (go_at_call 93; refine (CK.out _).mono ?_; rintro e w' ⟨rfl, rfl⟩) | (go_at_call 94; (with_reducible refine (CV.out _).mono ?_); rintro e w' ⟨rfl, rfl⟩) | (go_at_call 94; (with_reducible refine (CO.out _).mono ?_); rintro e w' ⟨rfl, rfl⟩))
                    go_ret
                    exact ⟨by rw [HZ.out]; rfl, HT.out⟩
                  | false =>
                    rw [ho] at CO HZ
                    clear ho
                    go_wp2_with (first | (go_at_call 93; refine (CK.out _).mono ?_; rintro e w' ⟨rfl, rfl⟩) | (go_at_call 94; (with_reducible refine (CV.out _).mono ?_); rintro e w' ⟨rfl, rfl⟩) | (go_at_call 94; (with_reducible refine (CO.out _).mono ?_); rintro e w' ⟨rfl, rfl⟩))
                    go_ret
                    exact ⟨by rw [HZ.out]; rfl, HT.out⟩
                | false =>
                  go_wp2_with (first | (go_at_call 93; refine (CK.out _).mono ?_; rintro e w' ⟨rfl, rfl⟩) | (go_at_call 94; (with_reducible refine (CV.out _).mono ?_); rintro e w' ⟨rfl, rfl⟩) | (go_at_call 94; (with_reducible refine (CO.out _).mono ?_); rintro e w' ⟨rfl, rfl⟩))
                  go_ret
                  exact ⟨by rw [HZ.out]; rfl, HT.out⟩
          · by_cases q6 : kind = 6
            · subst q6
              have HZ : Hid (refO 6 k v o had ws = refW ws) := Lib.hid (by unfold refO; rw [if_neg (by decide), if_neg (by decide), if_neg (by decide), if_pos rfl])
              go_wp2_with (first | (go_at_call 93; refine (CK.out _).mono ?_; rintro e w' ⟨rfl, rfl⟩) | (go_at_call 95; refine (CW.out _ HT.out).mono ?_; rintro e w2 ⟨rfl, ht⟩; have HT2 := Lib.hid (HT.out.trans ht); clear ht))
              go_ret
              exact ⟨by rw [HZ.out]; rfl, HT2.out⟩
            · have HZ : Hid (refO kind k v o had ws = 20) := Lib.hid (by unfold refO; rw [if_neg (by omega), if_neg q2, if_neg q4, if_neg q6])
              go_wp2_with (first | (go_at_call 93; refine (CK.out _).mono ?_; rintro e w' ⟨rfl, rfl⟩) | (go_at_call 95; refine (CW.out _ HT.out).mono ?_; rintro e w2 ⟨rfl, ht⟩; have HT2 := Lib.hid (HT.out.trans ht); clear ht))
              go_ret
              exact ⟨by rw [HZ.out]; rfl, HT.out⟩
end Go.Proofs.Ytllppkfeiifklaa
