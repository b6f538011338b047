/-
  Do of a nil map.
-/
import Derived.Test.YtjjmooegpoeomaaWDo
namespace Go.Proofs.Ytjjmooegpoeomaa
open Go.RowKit Go.Lib
set_option linter.unusedVariables false
set_option linter.unusedSimpArgs false

set_option maxHeartbeats 4000000 in
theorem do_nil (kind : Int) (k v o : ByteArray) (had aft : Bool) (A : Option Addr) (cap : Nat) (ws : List Wr) (w : World) (hrow : Row w A (wcs ws))
    (hf : Fit k ∧ Fit v ∧ (∀ x ∈ ws, Fit x.k ∧ Fit x.v)) (ho : Fit o) (hn : ws.length < 40000) :
    Calls Try.prog 16 #[.pointer none, .agg #[.int .u8 kind, .string k, .string v, .string o, .bool had, .bool aft, .slice A ws.length cap]] w fun e w' => e = .returned (doA [] kind k v o had aft ws).val ∧ Turn No w w' := by
  obtain ⟨DA, hDA⟩ : ∃ a, doA [] kind k v o had aft ws = a := ⟨_, rfl⟩
  obtain ⟨DM, hDM⟩ : ∃ a, doM [] kind k v o had aft ws = a := ⟨_, rfl⟩
  have HLD := Lib.hid (And.intro hDM hDA)
  rw [hDA]
  clear hDA hDM
  obtain ⟨ev, hev⟩ : ∃ e, refO kind k v o had ws = e := ⟨_, rfl⟩
  obtain ⟨Z, hZ0⟩ : ∃ Z, Z = w.heap.size := ⟨_, rfl⟩
  have hZ : Z ≤ w.heap.size := Nat.le_of_eq hZ0
  have HF := Lib.hid (And.intro hf.1 (And.intro hf.2.1 (And.intro hf.2.2 (And.intro hZ hn))))
  have HW : Hid (True ∧ Row w A (wcs ws) ∧ True) := Lib.hid ⟨trivial, hrow, trivial⟩
  have H1 := Lib.hid (two_boxes w #[.int .u8 kind, .string k, .string v, .string o, .bool had, .bool aft, .slice A ws.length cap])
  have CR := Lib.hid fun (W : World) (t : Turn No w W) => refused_any kind k v o had aft A cap ws W (hrow.turn t fun _ _ _ h => h) hf.1 hf.2.1 ho hf.2.2 (by omega)
  rw [hev] at CR
  clear hrow hf ho hn hZ hZ0
  go_enter Try.func16, Try.ntmps16
  go_upto_region 1 with fail
  generalize (w.alloc (.cells #[.int .u8 kind, .string k, .string v, .string o, .bool had, .bool aft, .slice A ws.length cap] 39)).alloc (.cells #[.int .i64 0, .bool false, .string ⟨#[]⟩, .string ⟨#[]⟩] 35) = w1 at H1 ⊢
  obtain ⟨g0, hg0⟩ : ∃ g, w.heap.size = g := ⟨_, rfl⟩
  rw [hg0] at H1 ⊢
  obtain ⟨g, hg⟩ : ∃ g, g0 + 1 = g := ⟨_, rfl⟩
  rw [hg] at H1 ⊢
  have HG := Lib.hid (And.intro hg0 hg)
  clear hg0 hg
  have y0 := H1.out.2.1.cell 0
  have y1 := H1.out.2.1.cell 1
  have y2 := H1.out.2.1.cell 2
  have y3 := H1.out.2.1.cell 3
  have y4 := H1.out.2.1.cell 4
  have y5 := H1.out.2.1.cell 5
  have y6 := H1.out.2.1.cell 6
  simp at y0 y1 y2 y3 y4 y5 y6
  go_upto_if 9 with (go_at_call 18; refine (CR.out _ H1.out.1).mono ?_; rintro e w3 ⟨rfl, ht⟩; have H3 := Lib.hid ht; clear ht)
  clear CR y0 y1 y2 y3 y4 y5 y6
  by_cases he : ev = 0
  · have HE : Hid (refO kind k v o had ws = 0) := Lib.hid (hev.trans he)
    subst he
    clear hev
    have HS : Hid (Dq w (w3.alloc (.cells #[.slice none 0 0] 65)) Z w3.heap.size none g0 g #[.int .u8 kind, .string k, .string v, .string o, .bool had, .bool aft, .slice A ws.length cap] none []) := Lib.hid (by
      have t2 : Turn No w3 (w3.alloc (.cells #[.slice none 0 0] 65)) := (Turn.refl _ _).alloc _
      have t3 := H3.out.trans t2
      have hl := (H1.out.2.2.no H3.out).lt
      have hl0 := (H1.out.2.1.no H3.out).lt
      have e0 := HG.out
      refine ⟨⟨⟨none, 0, At.new _ _, World.ownsRow_nil _ _ _ _, rfl⟩, List.Pairwise.nil, by simp, by simp, ?_⟩, (H1.out.1.trans t3).mono (fun _ _ h => h.elim), H1.out.2.1.no t3, H1.out.2.2.no t3, by omega, ⟨by omega, by simp⟩, ⟨by omega, by simp⟩, .inl rfl⟩
      have := HF.out.2.2.2.1
      have := (H1.out.1.trans H3.out).size
      omega)
    have HN : Hid (w.heap.size ≤ w3.heap.size) := Lib.hid (H1.out.1.trans H3.out).size
    clear H1 H3
    go_upto_region 6 with fail
    generalize w3.alloc (.cells #[.slice none 0 0] 65) = w4 at HS ⊢
    generalize w3.heap.size = mb at HS HN ⊢
    have y0 := HS.out.box.cell 0
    have y1 := HS.out.box.cell 1
    have y2 := HS.out.box.cell 2
    have y3 := HS.out.box.cell 3
    have y4 := HS.out.box.cell 4
    have y5 := HS.out.box.cell 5
    have y6 := HS.out.box.cell 6
    have f0 := HS.out.res.thawed 0
    have f1 := HS.out.res.thawed 1
    have f2 := HS.out.res.thawed 2
    have f3 := HS.out.res.thawed 3
    have d0 := HS.out.res.cell 0
    have d1 := HS.out.res.cell 1
    have d2 := HS.out.res.cell 2
    have d3 := HS.out.res.cell 3
    simp [ans0] at y0 y1 y2 y3 y4 y5 y6 d0 d1 d2 d3
    by_cases q1 : kind = 1
    · subst q1
      obtain ⟨fo, hfo⟩ : ∃ b, (getL [] k).isSome = b := ⟨_, rfl⟩
      obtain ⟨vo, hvo⟩ : ∃ b, (getL [] k).getD ⟨#[]⟩ = b := ⟨_, rfl⟩
      have hga : gans (getL [] k) = ⟨0, fo, ⟨#[]⟩, vo⟩ := by unfold gans; rw [hfo, hvo]
      have HGA := Lib.hid hga
      have CC : Hid (Calls Try.prog 35 #[.pointer (some ⟨mb, 0, none⟩), .string k] w4 fun e w' => e = .returned (.agg #[.int .i64 0, .bool fo, .string ⟨#[]⟩, .string vo]) ∧ Turn No w4 w') := Lib.hid (by have := get_any HS.out.om k; rw [hga] at this; exact this)
      clear hga hfo hvo
      go_wp2_with (go_at_call 35; refine CC.out.mono ?_; rintro e w5 ⟨rfl, t⟩; replace HS := Lib.hid (HS.out.no t); clear t y0 y1 y2 y3 y4 y5 y6 f0 d0 f1 d1 f2 d2 f3 d3; have y0 := HS.out.box.cell 0; have y1 := HS.out.box.cell 1; have y2 := HS.out.box.cell 2; have y3 := HS.out.box.cell 3; have y4 := HS.out.box.cell 4; have y5 := HS.out.box.cell 5; have y6 := HS.out.box.cell 6; have f0 := HS.out.res.thawed 0; have f1 := HS.out.res.thawed 1; have f2 := HS.out.res.thawed 2; have f3 := HS.out.res.thawed 3; have d0 := HS.out.res.cell 0; have d1 := HS.out.res.cell 1; have d2 := HS.out.res.cell 2; have d3 := HS.out.res.cell 3; simp [ans0] at y0 y1 y2 y3 y4 y5 y6 d0 d1 d2 d3)
      have HZ := Lib.hid (HS.out.result (.int .i64 0) (.bool fo) (.string ⟨#[]⟩) (.string vo))
      clear HS y0 y1 y2 y3 y4 y5 y6 f0 d0 f1 d1 f2 d2 f3 d3
      generalize (((w5.setCell ⟨g, 0, none⟩ (.int .i64 0)).setCell ⟨g, 1, none⟩ (.bool fo)).setCell ⟨g, 2, none⟩ (.string ⟨#[]⟩)).setCell ⟨g, 3, none⟩ (.string vo) = w9 at HZ ⊢
      (try simp only [Exit.inBlock, Exit.then])
      refine bodyPost_ret (results_cell_row rfl _ _ g 35 _ (0, 0) _ (by rfl) HZ.out.2.2.2 Try.underlying35 rfl (by kernel_rfl)) rfl ?_
      exact ⟨by rw [← HLD.out.2, doA.eq_1, if_pos HE.out, if_pos (by decide), HGA.out]; rfl, HZ.out.2.2.1.then (Turn.refl No _) (fun _ _ h => h.elim) |>.mono (fun i hi e => by rcases e with e | e; (have := HN.out; omega); cases e)⟩
    · by_cases q2 : kind = 2
      · subst q2
        obtain ⟨fo, hfo⟩ : ∃ b, (getL [] k).isSome = b := ⟨_, rfl⟩
        obtain ⟨vo, hvo⟩ : ∃ b, (getL [] k).getD ⟨#[]⟩ = b := ⟨_, rfl⟩
        have hga : gans (getL [] k) = ⟨0, fo, ⟨#[]⟩, vo⟩ := by unfold gans; rw [hfo, hvo]
        have HGA := Lib.hid hga
        have CC : Hid (Calls Try.prog 36 #[.pointer (some ⟨mb, 0, none⟩), .string k, .string v] w4 fun e w' => e = .returned (.agg #[.int .i64 0, .bool fo, .string ⟨#[]⟩, .string vo]) ∧ ∃ rb', Om w' Z mb rb' (putL [] k v) ∧ (rb' = none ∨ ∃ k, rb' = some k ∧ w4.heap.size ≤ k) ∧ Turn (fun k => k = mb ∨ none = some k) w4 w') := Lib.hid (by have := put_any HS.out.om k v HF.out.1 HF.out.2.1 (by simp) (Nat.le_trans HF.out.2.2.2.1 HS.out.tu.size); rw [hga] at this; exact this)
        clear hga hfo hvo
        go_wp2_with (go_at_call 36; refine CC.out.mono ?_; rintro e w5 ⟨rfl, rb2, om, hr, t⟩; replace HS := Lib.hid (HS.out.step om hr t); clear om hr t y0 y1 y2 y3 y4 y5 y6 f0 d0 f1 d1 f2 d2 f3 d3; have y0 := HS.out.box.cell 0; have y1 := HS.out.box.cell 1; have y2 := HS.out.box.cell 2; have y3 := HS.out.box.cell 3; have y4 := HS.out.box.cell 4; have y5 := HS.out.box.cell 5; have y6 := HS.out.box.cell 6; have f0 := HS.out.res.thawed 0; have f1 := HS.out.res.thawed 1; have f2 := HS.out.res.thawed 2; have f3 := HS.out.res.thawed 3; have d0 := HS.out.res.cell 0; have d1 := HS.out.res.cell 1; have d2 := HS.out.res.cell 2; have d3 := HS.out.res.cell 3; simp [ans0] at y0 y1 y2 y3 y4 y5 y6 d0 d1 d2 d3)
        have HZ := Lib.hid (HS.out.result (.int .i64 0) (.bool fo) (.string ⟨#[]⟩) (.string vo))
        clear HS y0 y1 y2 y3 y4 y5 y6 f0 d0 f1 d1 f2 d2 f3 d3
        generalize (((w5.setCell ⟨g, 0, none⟩ (.int .i64 0)).setCell ⟨g, 1, none⟩ (.bool fo)).setCell ⟨g, 2, none⟩ (.string ⟨#[]⟩)).setCell ⟨g, 3, none⟩ (.string vo) = w9 at HZ ⊢
        (try simp only [Exit.inBlock, Exit.then])
        refine bodyPost_ret (results_cell_row rfl _ _ g 35 _ (0, 0) _ (by rfl) HZ.out.2.2.2 Try.underlying35 rfl (by kernel_rfl)) rfl ?_
        exact ⟨by rw [← HLD.out.2, doA.eq_1, if_pos HE.out, if_pos (by decide), HGA.out]; rfl, HZ.out.2.2.1.then (Turn.refl No _) (fun _ _ h => h.elim) |>.mono (fun i hi e => by rcases e with e | e; (have := HN.out; omega); cases e)⟩
      · by_cases q3 : kind = 3
        · subst q3
          obtain ⟨fo, hfo⟩ : ∃ b, (getL [] k).isSome = b := ⟨_, rfl⟩
          obtain ⟨vo, hvo⟩ : ∃ b, (getL [] k).getD ⟨#[]⟩ = b := ⟨_, rfl⟩
          have hga : gans (getL [] k) = ⟨0, fo, ⟨#[]⟩, vo⟩ := by unfold gans; rw [hfo, hvo]
          have HGA := Lib.hid hga
          have CC : Hid (Calls Try.prog 37 #[.pointer (some ⟨mb, 0, none⟩), .string k] w4 fun e w' => e = .returned (.agg #[.int .i64 0, .bool fo, .string ⟨#[]⟩, .string vo]) ∧ ∃ rb', Om w' Z mb rb' (delL [] k) ∧ (rb' = none ∨ ∃ k, rb' = some k ∧ w4.heap.size ≤ k) ∧ Turn (fun k => k = mb ∨ none = some k) w4 w') := Lib.hid (by have := remove_any HS.out.om k; rw [hga] at this; exact this)
          clear hga hfo hvo
          go_wp2_with (go_at_call 37; refine CC.out.mono ?_; rintro e w5 ⟨rfl, rb2, om, hr, t⟩; replace HS := Lib.hid (HS.out.step om hr t); clear om hr t y0 y1 y2 y3 y4 y5 y6 f0 d0 f1 d1 f2 d2 f3 d3; have y0 := HS.out.box.cell 0; have y1 := HS.out.box.cell 1; have y2 := HS.out.box.cell 2; have y3 := HS.out.box.cell 3; have y4 := HS.out.box.cell 4; have y5 := HS.out.box.cell 5; have y6 := HS.out.box.cell 6; have f0 := HS.out.res.thawed 0; have f1 := HS.out.res.thawed 1; have f2 := HS.out.res.thawed 2; have f3 := HS.out.res.thawed 3; have d0 := HS.out.res.cell 0; have d1 := HS.out.res.cell 1; have d2 := HS.out.res.cell 2; have d3 := HS.out.res.cell 3; simp [ans0] at y0 y1 y2 y3 y4 y5 y6 d0 d1 d2 d3)
          have HZ := Lib.hid (HS.out.result (.int .i64 0) (.bool fo) (.string ⟨#[]⟩) (.string vo))
          clear HS y0 y1 y2 y3 y4 y5 y6 f0 d0 f1 d1 f2 d2 f3 d3
          generalize (((w5.setCell ⟨g, 0, none⟩ (.int .i64 0)).setCell ⟨g, 1, none⟩ (.bool fo)).setCell ⟨g, 2, none⟩ (.string ⟨#[]⟩)).setCell ⟨g, 3, none⟩ (.string vo) = w9 at HZ ⊢
          (try simp only [Exit.inBlock, Exit.then])
          refine bodyPost_ret (results_cell_row rfl _ _ g 35 _ (0, 0) _ (by rfl) HZ.out.2.2.2 Try.underlying35 rfl (by kernel_rfl)) rfl ?_
          exact ⟨by rw [← HLD.out.2, doA.eq_1, if_pos HE.out, if_pos (by decide), HGA.out]; rfl, HZ.out.2.2.1.then (Turn.refl No _) (fun _ _ h => h.elim) |>.mono (fun i hi e => by rcases e with e | e; (have := HN.out; omega); cases e)⟩
        · by_cases q4 : kind = 4
          · subst q4
            have CC := Lib.hid (swap_any HS.out.om 4 k v o had aft A ws.length cap ⟨HF.out.1, HF.out.2.1⟩ (by simp) (Nat.le_trans HF.out.2.2.2.1 HS.out.tu.size))
            obtain ⟨sd, hsd⟩ : ∃ b, swD [] k o had = b := ⟨_, rfl⟩
            obtain ⟨vo, hvo⟩ : ∃ b, (getL [] k).getD ⟨#[]⟩ = b := ⟨_, rfl⟩
            obtain ⟨L3, hL3⟩ : ∃ L3, (if swD [] k o had = true then putL [] k v else []) = L3 := ⟨_, rfl⟩
            rw [hL3, hsd, hvo] at CC
            have HGA := Lib.hid (And.intro hL3 (And.intro hsd hvo))
            clear hsd hvo hL3
            go_wp2_with (go_at_call 38; refine CC.out.mono ?_; rintro e w5 ⟨rfl, rb2, om, hr, t⟩; replace HS := Lib.hid (HS.out.step om hr t); clear om hr t y0 y1 y2 y3 y4 y5 y6 f0 d0 f1 d1 f2 d2 f3 d3; have y0 := HS.out.box.cell 0; have y1 := HS.out.box.cell 1; have y2 := HS.out.box.cell 2; have y3 := HS.out.box.cell 3; have y4 := HS.out.box.cell 4; have y5 := HS.out.box.cell 5; have y6 := HS.out.box.cell 6; have f0 := HS.out.res.thawed 0; have f1 := HS.out.res.thawed 1; have f2 := HS.out.res.thawed 2; have f3 := HS.out.res.thawed 3; have d0 := HS.out.res.cell 0; have d1 := HS.out.res.cell 1; have d2 := HS.out.res.cell 2; have d3 := HS.out.res.cell 3; simp [ans0] at y0 y1 y2 y3 y4 y5 y6 d0 d1 d2 d3)
            have HZ := Lib.hid (HS.out.result (.int .i64 0) (.bool sd) (.string ⟨#[]⟩) (.string vo))
            clear HS y0 y1 y2 y3 y4 y5 y6 f0 d0 f1 d1 f2 d2 f3 d3
            generalize (((w5.setCell ⟨g, 0, none⟩ (.int .i64 0)).setCell ⟨g, 1, none⟩ (.bool sd)).setCell ⟨g, 2, none⟩ (.string ⟨#[]⟩)).setCell ⟨g, 3, none⟩ (.string vo) = w9 at HZ ⊢
            (try simp only [Exit.inBlock, Exit.then])
            refine bodyPost_ret (results_cell_row rfl _ _ g 35 _ (0, 0) _ (by rfl) HZ.out.2.2.2 Try.underlying35 rfl (by kernel_rfl)) rfl ?_
            exact ⟨by rw [← HLD.out.2, doA.eq_1, if_pos HE.out, if_neg (by decide), if_pos rfl, HGA.out.2.1, HGA.out.2.2]; rfl, HZ.out.2.2.1.then (Turn.refl No _) (fun _ _ h => h.elim) |>.mono (fun i hi e => by rcases e with e | e; (have := HN.out; omega); cases e)⟩
          · by_cases q5 : kind = 5
            · subst q5
              have CC := Lib.hid (next_any HS.out.om k aft)
              obtain ⟨an, han⟩ : ∃ b, nans (nexts [] k aft) = b := ⟨_, rfl⟩
              obtain ⟨ac, af, ak, av⟩ := an
              rw [han] at CC
              unfold Ans.val at CC
              have HGA := Lib.hid han
              clear han
              go_wp2_with (go_at_call 39; refine CC.out.mono ?_; rintro e w5 ⟨rfl, t⟩; replace HS := Lib.hid (HS.out.no t); clear t y0 y1 y2 y3 y4 y5 y6 f0 d0 f1 d1 f2 d2 f3 d3; have y0 := HS.out.box.cell 0; have y1 := HS.out.box.cell 1; have y2 := HS.out.box.cell 2; have y3 := HS.out.box.cell 3; have y4 := HS.out.box.cell 4; have y5 := HS.out.box.cell 5; have y6 := HS.out.box.cell 6; have f0 := HS.out.res.thawed 0; have f1 := HS.out.res.thawed 1; have f2 := HS.out.res.thawed 2; have f3 := HS.out.res.thawed 3; have d0 := HS.out.res.cell 0; have d1 := HS.out.res.cell 1; have d2 := HS.out.res.cell 2; have d3 := HS.out.res.cell 3; simp [ans0] at y0 y1 y2 y3 y4 y5 y6 d0 d1 d2 d3)
              have HZ := Lib.hid (HS.out.result (.int .i64 ac) (.bool af) (.string ak) (.string av))
              clear HS y0 y1 y2 y3 y4 y5 y6 f0 d0 f1 d1 f2 d2 f3 d3
              generalize (((w5.setCell ⟨g, 0, none⟩ (.int .i64 ac)).setCell ⟨g, 1, none⟩ (.bool af)).setCell ⟨g, 2, none⟩ (.string ak)).setCell ⟨g, 3, none⟩ (.string av) = w9 at HZ ⊢
              (try simp only [Exit.inBlock, Exit.then])
              refine bodyPost_ret (results_cell_row rfl _ _ g 35 _ (0, 0) _ (by rfl) HZ.out.2.2.2 Try.underlying35 rfl (by kernel_rfl)) rfl ?_
              exact ⟨by rw [← HLD.out.2, doA.eq_1, if_pos HE.out, if_neg (by decide), if_neg (by decide), if_pos rfl, HGA.out]; rfl, HZ.out.2.2.1.then (Turn.refl No _) (fun _ _ h => h.elim) |>.mono (fun i hi e => by rcases e with e | e; (have := HN.out; omega); cases e)⟩
            · by_cases q6 : kind = 6
              · subst q6
                have CC := Lib.hid (write_any HS.out.om ws A cap (row_sep HW.out.2.1 HS.out.tu (row_old HW.out.2.1 HN.out)) (row_old HW.out.2.1 HN.out) HF.out.2.2.1 (by have := HF.out.2.2.2.2; simp; omega) (Nat.le_trans HF.out.2.2.2.1 HS.out.tu.size))
                go_wp2_with (go_at_call 40; refine CC.out.mono ?_; rintro e w5 ⟨rfl, rb2, om, hr, t⟩; replace HS := Lib.hid (HS.out.step om hr t); clear om hr t y0 y1 y2 y3 y4 y5 y6 f0 d0 f1 d1 f2 d2 f3 d3; have y0 := HS.out.box.cell 0; have y1 := HS.out.box.cell 1; have y2 := HS.out.box.cell 2; have y3 := HS.out.box.cell 3; have y4 := HS.out.box.cell 4; have y5 := HS.out.box.cell 5; have y6 := HS.out.box.cell 6; have f0 := HS.out.res.thawed 0; have f1 := HS.out.res.thawed 1; have f2 := HS.out.res.thawed 2; have f3 := HS.out.res.thawed 3; have d0 := HS.out.res.cell 0; have d1 := HS.out.res.cell 1; have d2 := HS.out.res.cell 2; have d3 := HS.out.res.cell 3; simp [ans0] at y0 y1 y2 y3 y4 y5 y6 d0 d1 d2 d3)
                have HZ := Lib.hid (HS.out.result (.int .i64 0) (.bool false) (.string ⟨#[]⟩) (.string ⟨#[]⟩))
                clear HS y0 y1 y2 y3 y4 y5 y6 f0 d0 f1 d1 f2 d2 f3 d3
                generalize (((w5.setCell ⟨g, 0, none⟩ (.int .i64 0)).setCell ⟨g, 1, none⟩ (.bool false)).setCell ⟨g, 2, none⟩ (.string ⟨#[]⟩)).setCell ⟨g, 3, none⟩ (.string ⟨#[]⟩) = w9 at HZ ⊢
                (try simp only [Exit.inBlock, Exit.then])
                refine bodyPost_ret (results_cell_row rfl _ _ g 35 _ (0, 0) _ (by rfl) HZ.out.2.2.2 Try.underlying35 rfl (by kernel_rfl)) rfl ?_
                exact ⟨by rw [← HLD.out.2, doA.eq_1, if_pos HE.out, if_neg (by decide), if_neg (by decide), if_neg (by decide)]; rfl, HZ.out.2.2.1.then (Turn.refl No _) (fun _ _ h => h.elim) |>.mono (fun i hi e => by rcases e with e | e; (have := HN.out; omega); cases e)⟩
              · exfalso
                have := HE.out
                unfold refO at this
                rw [if_neg (by omega), if_neg q2, if_neg q4, if_neg q6] at this
                cases this
  · have HE : Hid (¬ refO kind k v o had ws = 0 ∧ refO kind k v o had ws = ev) := Lib.hid ⟨hev ▸ he, hev⟩
    clear hev
    have HS : Hid (Res w w3 g ans0) := Lib.hid ⟨H1.out.1.trans H3.out, by have := HG.out; omega, H1.out.2.2.no H3.out⟩
    clear H1 H3
    have f0 := HS.out.at_.thawed 0
    have f1 := HS.out.at_.thawed 1
    have f2 := HS.out.at_.thawed 2
    have f3 := HS.out.at_.thawed 3
    have d0 := HS.out.at_.cell 0
    have d1 := HS.out.at_.cell 1
    have d2 := HS.out.at_.cell 2
    have d3 := HS.out.at_.cell 3
    simp [ans0] at d0 d1 d2 d3
    go_wp2_with fail
    have HZ := Lib.hid (HS.out.all (.int .i64 ev) (.bool false) (.string ⟨#[]⟩) (.string ⟨#[]⟩))
    clear HS f0 f1 f2 f3 d0 d1 d2 d3
    generalize (((w3.setCell ⟨g, 0, none⟩ (.int .i64 ev)).setCell ⟨g, 1, none⟩ (.bool false)).setCell ⟨g, 2, none⟩ (.string ⟨#[]⟩)).setCell ⟨g, 3, none⟩ (.string ⟨#[]⟩) = w9 at HZ ⊢
    (try simp only [Exit.inBlock, Exit.then])
    refine bodyPost_ret (results_cell_row rfl _ _ g 35 _ (0, 0) _ (by rfl) HZ.out.at_ Try.underlying35 rfl (by kernel_rfl)) rfl ?_
    exact ⟨by rw [← HLD.out.2, doA.eq_1, if_neg HE.out.1, HE.out.2]; rfl, HZ.out.tu⟩
end Go.Proofs.Ytjjmooegpoeomaa
