/-
  next: the least key that is not below one, or above it; Len.
-/
import Derived.Test.YtjjmooegpoeomaaWRem
namespace Go.Proofs.Ytjjmooegpoeomaa
open Go.RowKit Go.Lib
set_option linter.unusedVariables false
set_option linter.unusedSimpArgs false

def nans : List Pr → Ans
  | p :: _ => ⟨0, true, p.k, p.v⟩
  | [] => ⟨0, false, ⟨#[]⟩, ⟨#[]⟩⟩
theorem drop_low (l : List Pr) (key : ByteArray) : l.drop (lowL l key).length = hiL l key := by
  have h := split_L l key
  have : (lowL l key ++ hiL l key).drop (lowL l key).length = hiL l key := List.drop_left
  rwa [h] at this
theorem nexts_0 (l : List Pr) (key : ByteArray) (aft : Bool) (h : (hasL l key && aft) = false) : nexts l key aft = l.drop (lowL l key).length := by
  unfold nexts
  rw [h, drop_low]
  rfl
theorem nexts_1 (l : List Pr) (key : ByteArray) (aft : Bool) (h : (hasL l key && aft) = true) : nexts l key aft = l.drop ((lowL l key).length + 1) := by
  unfold nexts
  rw [h, if_pos rfl, ← drop_low]
  simp
theorem low_le (l : List Pr) (key : ByteArray) : (lowL l key).length ≤ l.length := by have := len_L l key; omega
theorem low_lt {l : List Pr} {key : ByteArray} (h : hasL l key = true) : (lowL l key).length + 1 ≤ l.length := by
  obtain ⟨v, t, ht⟩ := has_true h
  have := len_L l key
  rw [ht, List.length_cons] at this
  omega
theorem nans_drop {l : List Pr} {i : Nat} {p : Pr} (h : l[i]? = some p) : nans (l.drop i) = ⟨0, true, p.k, p.v⟩ := by
  obtain ⟨hi, e⟩ := List.getElem?_eq_some_iff.1 h
  rw [List.drop_eq_getElem_cons hi, e]
  rfl
theorem nans_end {l : List Pr} : nans (l.drop l.length) = ⟨0, false, ⟨#[]⟩, ⟨#[]⟩⟩ := by
  rw [List.drop_length]
  rfl
theorem len_any {w : World} {Z mb : Nat} {rb : Option Nat} {l : List Pr} (h : Om w Z mb rb l) : Calls Try.prog 20 #[.pointer (some ⟨mb, 0, none⟩)] w fun e w' => e = .returned (.int .i64 (l.length : Int)) ∧ w' = w := by
  obtain ⟨A, cap, h0, hr, _⟩ := h.rowed
  have c0 := h0.cell 0
  have hf := h.few
  simp only [List.getElem?_toArray, List.getElem?_cons_zero] at c0
  clear h0 hr h
  go_enter Try.func20, Try.ntmps20
  go_wp2_with fail
  go_ret
  exact ⟨rfl, rfl⟩
theorem len_nil (w : World) : Calls Try.prog 20 #[.pointer none] w fun e w' => e = .returned (.int .i64 0) ∧ w' = w := by
  go_enter Try.func20, Try.ntmps20
  go_wp2_with fail
  go_ret
  exact ⟨rfl, rfl⟩

set_option maxHeartbeats 2000000 in
theorem next_any {w : World} {Z mb : Nat} {rb : Option Nat} {l : List Pr} (h : Om w Z mb rb l) (key : ByteArray) (aft : Bool) :
    Calls Try.prog 39 #[.pointer (some ⟨mb, 0, none⟩), .string key, .bool aft] w fun e w' => e = .returned (nans (nexts l key aft)).val ∧ Turn No w w' := by
  have HR := Lib.hid (Res.start w)
  have HM := Lib.hid h
  have CF := Lib.hid fun (W : World) (t : Turn No w W) => find_any (h.no t) key
  have hle := low_le l key
  have hfew := h.few
  clear h
  go_enter Try.func39, Try.ntmps39
  go_upto_region 1 with fail
  unfold ans0 at HR
  generalize w.alloc (.cells #[.int .i64 0, .bool false, .string ⟨#[]⟩, .string ⟨#[]⟩] 35) = w1 at HR ⊢
  generalize w.heap.size = g at HR ⊢
  go_upto_region 2 with (go_at_call 50; refine (CF.out _ HR.out.tu).mono ?_; rintro e w2 ⟨rfl, ht⟩; have H2 := Lib.hid (HR.out.no ht); clear ht)
  clear CF HR
  obtain ⟨A, cap, hm, hr, _⟩ := (HM.out.no H2.out.tu).rowed
  have HR2 := Lib.hid (row_of_own hr)
  have m0 := hm.cell 0
  simp only [List.getElem?_toArray, List.getElem?_cons_zero] at m0
  clear hm hr
  have f0 := H2.out.at_.thawed 0
  have f1 := H2.out.at_.thawed 1
  have f2 := H2.out.at_.thawed 2
  have f3 := H2.out.at_.thawed 3
  have d0 := H2.out.at_.cell 0
  have d1 := H2.out.at_.cell 1
  have d2 := H2.out.at_.cell 2
  have d3 := H2.out.at_.cell 3
  simp at d0 d1 d2 d3
  have hlt1 := fun h => low_lt (l := l) (key := key) h
  obtain ⟨c, hc⟩ : ∃ c, (lowL l key).length = c := ⟨_, rfl⟩
  obtain ⟨n, hn⟩ : ∃ n, l.length = n := ⟨_, rfl⟩
  have HN := Lib.hid hn
  rw [hn] at hle m0 hfew
  rw [hn, hc] at hlt1
  rw [hc] at hle ⊢
  clear hn
  cases hh : hasL l key with
  | false =>
    clear hlt1
    have hat : (c) ≤ n := by omega
    have HX : Hid (nexts l key aft = l.drop ((c))) := Lib.hid (by rw [← hc]; exact nexts_0 l key aft (by rw [hh]; rfl))
    clear hh hc
    by_cases hq : (c) = n
    · have HQ := Lib.hid hq
      have hqi : (c : Int) = (n : Int) := by omega
      clear hat hq
      go_wp2_with fail
      have HE := Lib.hid (H2.out.all (.int .i64 0) (.bool false) (.string ⟨#[]⟩) (.string ⟨#[]⟩))
      clear H2 f0 f1 f2 f3 d0 d1 d2 d3
      generalize (((w2.setCell ⟨g, 0, none⟩ (.int .i64 0)).setCell ⟨g, 1, none⟩ (.bool false)).setCell ⟨g, 2, none⟩ (.string ⟨#[]⟩)).setCell ⟨g, 3, none⟩ (.string ⟨#[]⟩) = w3 at HE ⊢
      (try simp only [Exit.inBlock, Exit.then])
      refine bodyPost_ret (results_cell_row rfl _ _ g 35 _ (0, 0) _ (by rfl) HE.out.at_ Try.underlying35 rfl (by kernel_rfl)) rfl ?_
      exact ⟨by rw [HX.out, HQ.out, ← HN.out, nans_end]; rfl, HE.out.tu⟩
    · have hlt : (c) < n := by omega
      have hqi : ¬ ((c : Int) = (n : Int)) := by omega
      have hli : (c : Int) < (n : Int) := by omega
      obtain ⟨p, hp⟩ : ∃ p, l[(c)]? = some p := ⟨l[(c)]'(by rw [HN.out]; exact hlt), List.getElem?_eq_getElem (by rw [HN.out]; exact hlt)⟩
      obtain ⟨b, off, hA, hb, x0, x1⟩ := HR2.out.pair hp
      have hfp := HM.out.fit p (List.mem_of_getElem? hp)
      have HP : Hid (nans (l.drop ((c))) = ⟨0, true, p.k, p.v⟩) := Lib.hid (nans_drop hp)
      obtain ⟨pk, pv⟩ := p
      have CL : Hid (∀ W, Turn No w2 W → Calls Try.prog 49 #[.agg #[.string pk, .string pv]] W fun e w' => e = .returned (.agg #[.string pk, .string pv]) ∧ Turn No W w') := Lib.hid fun W _ => clonePair_any pk pv hfp.1 hfp.2 W
      subst hA
      simp only at x0 x1
      clear hb hp hfp hq HR2 HM hat
      go_wp2_with (go_at_call 49; refine (CL.out _ (Turn.refl _ _)).mono ?_; rintro e w3 ⟨rfl, ht⟩; have H3 := Lib.hid ((H2.out.no ht).no ((Turn.refl No _).alloc (.cells #[.string pk, .string pv] 50))); clear ht; have f0 := H3.out.at_.thawed 0; have f1 := H3.out.at_.thawed 1; have f2 := H3.out.at_.thawed 2; have f3 := H3.out.at_.thawed 3; have d0 := H3.out.at_.cell 0; have d1 := H3.out.at_.cell 1; have d2 := H3.out.at_.cell 2; have d3 := H3.out.at_.cell 3; simp at d0 d1 d2 d3)
      have HE := Lib.hid (H3.out.all (.int .i64 0) (.bool true) (.string pk) (.string pv))
      clear H3 f0 f1 f2 f3 d0 d1 d2 d3
      generalize ((((w3.alloc (.cells #[.string pk, .string pv] 50)).setCell ⟨g, 0, none⟩ (.int .i64 0)).setCell ⟨g, 1, none⟩ (.bool true)).setCell ⟨g, 2, none⟩ (.string pk)).setCell ⟨g, 3, none⟩ (.string pv) = w4 at HE ⊢
      (try simp only [Exit.inBlock, Exit.then])
      refine bodyPost_ret (results_cell_row rfl _ _ g 35 _ (0, 0) _ (by rfl) HE.out.at_ Try.underlying35 rfl (by kernel_rfl)) rfl ?_
      exact ⟨by rw [HX.out, HP.out]; rfl, HE.out.tu⟩
  | true =>
    have hl1 := hlt1 hh
    clear hlt1
    cases aft with
    | false =>
      have hat : (c) ≤ n := by omega
      have HX : Hid (nexts l key false = l.drop ((c))) := Lib.hid (by rw [← hc]; exact nexts_0 l key false (by rw [hh]; rfl))
      clear hh hc
      by_cases hq : (c) = n
      · exfalso; omega
      · have hlt : (c) < n := by omega
        have hqi : ¬ ((c : Int) = (n : Int)) := by omega
        have hli : (c : Int) < (n : Int) := by omega
        obtain ⟨p, hp⟩ : ∃ p, l[(c)]? = some p := ⟨l[(c)]'(by rw [HN.out]; exact hlt), List.getElem?_eq_getElem (by rw [HN.out]; exact hlt)⟩
        obtain ⟨b, off, hA, hb, x0, x1⟩ := HR2.out.pair hp
        have hfp := HM.out.fit p (List.mem_of_getElem? hp)
        have HP : Hid (nans (l.drop ((c))) = ⟨0, true, p.k, p.v⟩) := Lib.hid (nans_drop hp)
        obtain ⟨pk, pv⟩ := p
        have CL : Hid (∀ W, Turn No w2 W → Calls Try.prog 49 #[.agg #[.string pk, .string pv]] W fun e w' => e = .returned (.agg #[.string pk, .string pv]) ∧ Turn No W w') := Lib.hid fun W _ => clonePair_any pk pv hfp.1 hfp.2 W
        subst hA
        simp only at x0 x1
        clear hb hp hfp hq HR2 HM hat
        go_wp2_with (go_at_call 49; refine (CL.out _ (Turn.refl _ _)).mono ?_; rintro e w3 ⟨rfl, ht⟩; have H3 := Lib.hid ((H2.out.no ht).no ((Turn.refl No _).alloc (.cells #[.string pk, .string pv] 50))); clear ht; have f0 := H3.out.at_.thawed 0; have f1 := H3.out.at_.thawed 1; have f2 := H3.out.at_.thawed 2; have f3 := H3.out.at_.thawed 3; have d0 := H3.out.at_.cell 0; have d1 := H3.out.at_.cell 1; have d2 := H3.out.at_.cell 2; have d3 := H3.out.at_.cell 3; simp at d0 d1 d2 d3)
        have HE := Lib.hid (H3.out.all (.int .i64 0) (.bool true) (.string pk) (.string pv))
        clear H3 f0 f1 f2 f3 d0 d1 d2 d3
        generalize ((((w3.alloc (.cells #[.string pk, .string pv] 50)).setCell ⟨g, 0, none⟩ (.int .i64 0)).setCell ⟨g, 1, none⟩ (.bool true)).setCell ⟨g, 2, none⟩ (.string pk)).setCell ⟨g, 3, none⟩ (.string pv) = w4 at HE ⊢
        (try simp only [Exit.inBlock, Exit.then])
        refine bodyPost_ret (results_cell_row rfl _ _ g 35 _ (0, 0) _ (by rfl) HE.out.at_ Try.underlying35 rfl (by kernel_rfl)) rfl ?_
        exact ⟨by rw [HX.out, HP.out]; rfl, HE.out.tu⟩
    | true =>
      have hat : (c + 1) ≤ n := by omega
      have HX : Hid (nexts l key true = l.drop ((c + 1))) := Lib.hid (by rw [← hc]; exact nexts_1 l key true (by rw [hh]; rfl))
      clear hh hc
      by_cases hq : (c + 1) = n
      · have HQ := Lib.hid hq
        have hqi : (c : Int) + 1 = (n : Int) := by omega
        clear hat hq
        go_wp2_with fail
        have HE := Lib.hid (H2.out.all (.int .i64 0) (.bool false) (.string ⟨#[]⟩) (.string ⟨#[]⟩))
        clear H2 f0 f1 f2 f3 d0 d1 d2 d3
        generalize (((w2.setCell ⟨g, 0, none⟩ (.int .i64 0)).setCell ⟨g, 1, none⟩ (.bool false)).setCell ⟨g, 2, none⟩ (.string ⟨#[]⟩)).setCell ⟨g, 3, none⟩ (.string ⟨#[]⟩) = w3 at HE ⊢
        (try simp only [Exit.inBlock, Exit.then])
        refine bodyPost_ret (results_cell_row rfl _ _ g 35 _ (0, 0) _ (by rfl) HE.out.at_ Try.underlying35 rfl (by kernel_rfl)) rfl ?_
        exact ⟨by rw [HX.out, HQ.out, ← HN.out, nans_end]; rfl, HE.out.tu⟩
      · have hlt : (c + 1) < n := by omega
        have hqi : ¬ ((c : Int) + 1 = (n : Int)) := by omega
        have hli : (c : Int) + 1 < (n : Int) := by omega
        obtain ⟨p, hp⟩ : ∃ p, l[(c + 1)]? = some p := ⟨l[(c + 1)]'(by rw [HN.out]; exact hlt), List.getElem?_eq_getElem (by rw [HN.out]; exact hlt)⟩
        obtain ⟨b, off, hA, hb, x0, x1⟩ := HR2.out.pair hp
        have hfp := HM.out.fit p (List.mem_of_getElem? hp)
        have HP : Hid (nans (l.drop ((c + 1))) = ⟨0, true, p.k, p.v⟩) := Lib.hid (nans_drop hp)
        obtain ⟨pk, pv⟩ := p
        have CL : Hid (∀ W, Turn No w2 W → Calls Try.prog 49 #[.agg #[.string pk, .string pv]] W fun e w' => e = .returned (.agg #[.string pk, .string pv]) ∧ Turn No W w') := Lib.hid fun W _ => clonePair_any pk pv hfp.1 hfp.2 W
        subst hA
        simp only at x0 x1
        clear hb hp hfp hq HR2 HM hat
        go_wp2_with (go_at_call 49; refine (CL.out _ (Turn.refl _ _)).mono ?_; rintro e w3 ⟨rfl, ht⟩; have H3 := Lib.hid ((H2.out.no ht).no ((Turn.refl No _).alloc (.cells #[.string pk, .string pv] 50))); clear ht; have f0 := H3.out.at_.thawed 0; have f1 := H3.out.at_.thawed 1; have f2 := H3.out.at_.thawed 2; have f3 := H3.out.at_.thawed 3; have d0 := H3.out.at_.cell 0; have d1 := H3.out.at_.cell 1; have d2 := H3.out.at_.cell 2; have d3 := H3.out.at_.cell 3; simp at d0 d1 d2 d3)
        have HE := Lib.hid (H3.out.all (.int .i64 0) (.bool true) (.string pk) (.string pv))
        clear H3 f0 f1 f2 f3 d0 d1 d2 d3
        generalize ((((w3.alloc (.cells #[.string pk, .string pv] 50)).setCell ⟨g, 0, none⟩ (.int .i64 0)).setCell ⟨g, 1, none⟩ (.bool true)).setCell ⟨g, 2, none⟩ (.string pk)).setCell ⟨g, 3, none⟩ (.string pv) = w4 at HE ⊢
        (try simp only [Exit.inBlock, Exit.then])
        refine bodyPost_ret (results_cell_row rfl _ _ g 35 _ (0, 0) _ (by rfl) HE.out.at_ Try.underlying35 rfl (by kernel_rfl)) rfl ?_
        exact ⟨by rw [HX.out, HP.out]; rfl, HE.out.tu⟩
end Go.Proofs.Ytjjmooegpoeomaa
