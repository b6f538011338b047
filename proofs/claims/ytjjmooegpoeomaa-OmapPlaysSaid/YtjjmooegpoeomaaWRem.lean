/-
  remove: a key is not there.
-/
import Derived.Test.YtjjmooegpoeomaaWPut
namespace Go.Proofs.Ytjjmooegpoeomaa
open Go.RowKit Go.Lib
set_option linter.unusedVariables false
set_option linter.unusedSimpArgs false

theorem Pt.fin {w wr : World} {Z mb : Nat} {rb : Option Nat} {l : List Pr} {g g2 : Nat} {a : Ans} (h : Pt w wr Z mb rb l g g2 a) (hm : mb < w.heap.size) (hr : ∀ k, rb = some k → k < w.heap.size) : Fin w wr Z mb rb g g2 a rb l :=
  ⟨h.om, h.tu.mono (fun _ _ h => h.elim), h.res, h.had, h.old, hm, fun e => by have := hr g e; have := h.old; omega, .inl rfl⟩
set_option maxHeartbeats 2000000 in
theorem remove_any {w : World} {Z mb : Nat} {rb : Option Nat} {l : List Pr} (h : Om w Z mb rb l) (key : ByteArray) :
    Calls Try.prog 37 #[.pointer (some ⟨mb, 0, none⟩), .string key] w fun e w' => e = .returned (gans (getL l key)).val ∧ ∃ rb', Om w' Z mb rb' (delL l key) ∧ (rb' = rb ∨ ∃ k, rb' = some k ∧ w.heap.size ≤ k) ∧ Turn (fun k => k = mb ∨ rb = some k) w w' := by
  obtain ⟨fo, hfo⟩ : ∃ b, (getL l key).isSome = b := ⟨_, rfl⟩
  obtain ⟨vo, hvo⟩ : ∃ b, (getL l key).getD ⟨#[]⟩ = b := ⟨_, rfl⟩
  have hga : gans (getL l key) = ⟨0, fo, ⟨#[]⟩, vo⟩ := by unfold gans; rw [hfo, hvo]
  rw [hga]
  have hlt0 := h.lt
  have HR := Lib.hid (Res.start w)
  have CG : Hid (∀ W, Turn No w W → Calls Try.prog 35 #[.pointer (some ⟨mb, 0, none⟩), .string key] W fun e w' => e = .returned (.agg #[.int .i64 0, .bool fo, .string ⟨#[]⟩, .string vo]) ∧ Turn No W w') := Lib.hid fun W t => by
    have := get_any (h.no t) key
    rw [hga] at this
    exact this
  have CF := Lib.hid fun (W : World) (t : Turn No w W) => find_any (h.no t) key
  have HB := Lib.hid (And.intro hlt0 hlt0)
  have HM0 := Lib.hid h
  clear h hlt0 hga hfo hvo
  go_enter Try.func37, Try.ntmps37
  go_upto_region 1 with fail
  unfold ans0 at HR
  generalize w.alloc (.cells #[.int .i64 0, .bool false, .string ⟨#[]⟩, .string ⟨#[]⟩] 35) = w1 at HR ⊢
  obtain ⟨g, hg⟩ : ∃ g, w.heap.size = g := ⟨_, rfl⟩
  rw [hg] at HR ⊢
  have HG := Lib.hid hg
  clear hg
  go_upto_region 2 with (go_at_call 35; refine (CG.out _ HR.out.tu).mono ?_; rintro e w2 ⟨rfl, ht⟩; have H2 := Lib.hid (HR.out.no ht); clear ht)
  have H3 : Hid (Pt w (w2.alloc (.cells #[.int .i64 0, .bool fo, .string ⟨#[]⟩, .string vo] 35)) Z mb rb l g w2.heap.size ⟨0, fo, ⟨#[]⟩, vo⟩) := Lib.hid (by
    have hs : Turn No w2 (w2.alloc (.cells #[.int .i64 0, .bool fo, .string ⟨#[]⟩, .string vo] 35)) := (Turn.refl _ _).alloc _
    have hl := H2.out.at_.lt
    exact ⟨HM0.out.no (H2.out.tu.trans hs), H2.out.tu.trans hs, H2.out.at_.no hs, At.new _ _, H2.out.old, H2.out.tu.size, by omega⟩)
  clear H2 CG HR
  generalize w2.alloc (.cells #[.int .i64 0, .bool fo, .string ⟨#[]⟩, .string vo] 35) = w3 at H3 ⊢
  generalize w2.heap.size = g2 at H3 ⊢
  go_upto_if 17 with (go_at_call 50; refine (CF.out _ H3.out.tu).mono ?_; rintro e w4 ⟨rfl, ht⟩; have H4 := Lib.hid (H3.out.no ht); clear ht)
  clear H3 CF
  cases hh : hasL l key with
  | true =>
    obtain ⟨v0, t, ht⟩ := has_true hh
    have hL : lowL l key ++ t = delL l key := by rw [H4.out.om.asc.del_low, hh, ht]; rfl
    have hsp : l = lowL l key ++ ⟨key, v0⟩ :: t := by rw [← ht, split_L]
    obtain ⟨rb1, cap, n, c, hn, hc, hrb1, CD⟩ : ∃ rb1 cap n c, l.length = n ∧ (lowL l key).length = c ∧ (w4.cell? ⟨mb, 0, none⟩ = some (.slice (some ⟨rb1, 0, none⟩) n cap) ∧ w4.frozen? ⟨mb, 0, none⟩ = false) ∧ Hid (Calls Try.prog 53 #[.slice (some ⟨rb1, 0, none⟩) n cap, .int .i64 (c : Int), .int .i64 ((c : Int) + 1)] w4 fun e w' =>
        ∃ n1, e = .returned (.slice (some ⟨rb1, 0, none⟩) n1 cap) ∧ w'.cell? ⟨mb, 0, none⟩ = some (.slice (some ⟨rb1, 0, none⟩) n cap) ∧ w'.frozen? ⟨mb, 0, none⟩ = false ∧ Hid (Fin w (w'.setCell ⟨mb, 0, none⟩ (.slice (some ⟨rb1, 0, none⟩) n1 cap)) Z mb rb g g2 ⟨0, fo, ⟨#[]⟩, vo⟩ rb (delL l key))) := by
      obtain ⟨A, cap, h0, hr, hb⟩ := H4.out.om.rowed
      have hlen : l.length = (lowL l key).length + (t.length + 1) := by
        have := congrArg List.length hsp
        rwa [List.length_append, List.length_cons] at this
      rcases hr.2 with ⟨hv, h1⟩ | ⟨rb1, c, cur, hv, hb1, hg1, hnc, hcm, hcs, htk⟩
      · omega
      · injection hv with e1 _ e3
        subst e1 e3
        have hrl := H4.out.om.rb_lt hb.symm
        have hold : rb1 < w.heap.size := (HM0.out.rb_lt hb.symm).2
        have hne := H4.out.om.ne hb.symm
        refine ⟨rb1, cap, l.length, (lowL l key).length, rfl, rfl, ⟨by simpa using h0.cell 0, h0.thawed 0⟩, Lib.hid ?_⟩
        have hd : Hd w4 rb1 cap cur.toList (lowL l key ++ ⟨key, v0⟩ :: t) := ⟨by unfold Blk At; simpa using hg1, by simpa using hcs, by rw [← hsp]; exact hnc, by rw [← hsp]; exact htk⟩
        have := delete_any (lowL l key) t ⟨key, v0⟩ hd hcm
        rw [← hlen] at this
        refine this.mono ?_
        rintro e w' ⟨rfl, ⟨cur', hd'⟩, ht'⟩
        have hc' := h0.turn ht' hne
        refine ⟨_, rfl, by simpa using hc'.cell 0, hc'.thawed 0, Lib.hid ⟨⟨⟨some ⟨rb1, 0, none⟩, cap, ?_, ?_, hb⟩, ?_, ?_, ?_, H4.out.om.mb_new⟩, ?_, ?_, ?_, H4.out.old, HB.out.1, ?_, .inl rfl⟩⟩
        · have := hc'.set 0 (.slice (some ⟨rb1, 0, none⟩) ((lowL l key).length + t.length) cap)
          rw [← hL, List.length_append]
          simpa using this
        · have := hd'.own hb1 hcm
          rw [← hL]
          exact own_grown this (Turn.set1 w' mb _ _) (fun k hk e => hne (by injection hk with hk; exact e.symm.trans hk.symm))
        · exact H4.out.om.asc.del key
        · exact Nat.le_trans (del_length l key) H4.out.om.few
        · exact fun p hp => H4.out.om.fit p (List.mem_filter.1 hp).1
        · exact (((H4.out.tu.mono (Y := fun k => k = mb ∨ rb = some k) (fun _ _ h => h.elim)).then ht' (fun i _ e => Or.inr (by rw [e]; exact hb.symm))).setCell (p := ⟨mb, 0, none⟩) (Or.inl (Or.inl rfl)) _)
        · exact (H4.out.res.turn ht' (by have := H4.out.old; omega)).turn (Turn.set1 w' mb _ _) (by have := HB.out.1; have := H4.out.old; omega)
        · exact (H4.out.had.turn ht' (by have := H4.out.old2; omega)).turn (Turn.set1 w' mb _ _) (by have := HB.out.1; have := H4.out.old2; omega)
        · exact fun e => by have := (HM0.out.rb_lt e).2; have := H4.out.old; omega
    obtain ⟨m0, m1⟩ := hrb1
    have hcl : c < n := by
      have := congrArg List.length hsp
      rw [List.length_append, List.length_cons] at this
      omega
    have hnb : n ≤ 50000 := hn ▸ H4.out.om.few
    rw [hc]
    clear hc hn hL hsp ht hh H4 HM0 HB
    have nn : (c : Int) + 1 ≤ 9223372036854775807 := by omega
    go_upto_region 5 with (go_at_call 53; refine CD.out.mono ?_; rintro e w7 ⟨n1, rfl, z0, z1, HE⟩)
    clear m0 m1 z0 z1 CD
    generalize w7.setCell ⟨mb, 0, none⟩ (.slice (some ⟨rb1, 0, none⟩) n1 cap) = w8 at HE ⊢
    have f0 := HE.out.res.thawed 0
    have f1 := HE.out.res.thawed 1
    have f2 := HE.out.res.thawed 2
    have f3 := HE.out.res.thawed 3
    have d0 := HE.out.res.cell 0
    have d1 := HE.out.res.cell 1
    have d2 := HE.out.res.cell 2
    have d3 := HE.out.res.cell 3
    have a0 := HE.out.had.cell 0
    have a1 := HE.out.had.cell 1
    have a2 := HE.out.had.cell 2
    have a3 := HE.out.had.cell 3
    simp [ans0, Ans.ar] at d0 d1 d2 d3 a0 a1 a2 a3
    go_wp2_with fail
    have HZ := Lib.hid (HE.out.result (.int .i64 0) (.bool fo) (.string ⟨#[]⟩) (.string vo))
    clear HE f0 f1 f2 f3 d0 d1 d2 d3 a0 a1 a2 a3
    generalize (((w8.setCell ⟨g, 0, none⟩ (.int .i64 0)).setCell ⟨g, 1, none⟩ (.bool fo)).setCell ⟨g, 2, none⟩ (.string ⟨#[]⟩)).setCell ⟨g, 3, none⟩ (.string vo) = w9 at HZ ⊢
    (try simp only [Exit.inBlock, Exit.then])
    refine bodyPost_ret (results_cell_row rfl _ _ g 35 _ (0, 0) _ (by rfl) HZ.out.2.2.2 Try.underlying35 rfl (by kernel_rfl)) rfl ?_
    exact ⟨rfl, _, HZ.out.1, HZ.out.2.1, HZ.out.2.2.1⟩
  | false =>
    have hL : l = delL l key := by
      have := H4.out.om.asc.del_low key
      rw [hh] at this
      rw [this]
      exact (split_L l key).symm
    have HE : Hid (Fin w w4 Z mb rb g g2 ⟨0, fo, ⟨#[]⟩, vo⟩ rb (delL l key)) := Lib.hid (hL ▸ H4.out.fin HB.out.1 (fun k hk => (HM0.out.rb_lt hk).2))
    clear hL hh H4 HM0 HB
    obtain ⟨w8, hw8⟩ : ∃ x, x = w4 := ⟨_, rfl⟩
    subst hw8
    have f0 := HE.out.res.thawed 0
    have f1 := HE.out.res.thawed 1
    have f2 := HE.out.res.thawed 2
    have f3 := HE.out.res.thawed 3
    have d0 := HE.out.res.cell 0
    have d1 := HE.out.res.cell 1
    have d2 := HE.out.res.cell 2
    have d3 := HE.out.res.cell 3
    have a0 := HE.out.had.cell 0
    have a1 := HE.out.had.cell 1
    have a2 := HE.out.had.cell 2
    have a3 := HE.out.had.cell 3
    simp [ans0, Ans.ar] at d0 d1 d2 d3 a0 a1 a2 a3
    go_wp2_with fail
    have HZ := Lib.hid (HE.out.result (.int .i64 0) (.bool fo) (.string ⟨#[]⟩) (.string vo))
    clear HE f0 f1 f2 f3 d0 d1 d2 d3 a0 a1 a2 a3
    generalize (((w8.setCell ⟨g, 0, none⟩ (.int .i64 0)).setCell ⟨g, 1, none⟩ (.bool fo)).setCell ⟨g, 2, none⟩ (.string ⟨#[]⟩)).setCell ⟨g, 3, none⟩ (.string vo) = w9 at HZ ⊢
    (try simp only [Exit.inBlock, Exit.then])
    refine bodyPost_ret (results_cell_row rfl _ _ g 35 _ (0, 0) _ (by rfl) HZ.out.2.2.2 Try.underlying35 rfl (by kernel_rfl)) rfl ?_
    exact ⟨rfl, _, HZ.out.1, HZ.out.2.1, HZ.out.2.2.1⟩
end Go.Proofs.Ytjjmooegpoeomaa
