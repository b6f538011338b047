/-
  Do of a nil map.
  clonePairs, All: the pairs in a row of their own.
  Equality of answers and of pairs; wakes.
-/
import Derived.Test.YtllppkfeiifklaaJ7
import Derived.Deep.Onto
import Derived.Laws.StructEq
namespace Go.Proofs.Ytllppkfeiifklaa
open Go.RowKit Go.Lib
set_option linter.unusedVariables false
set_option maxRecDepth 20000
set_option linter.unusedSimpArgs false

set_option maxHeartbeats 4000000 in
theorem do_nil (kind : Int) (k v o : ByteArray) (had aft : Bool) (A : Option Addr) (cap : Nat) (ws : List Wr) (w : World) (hrow : Row w A (wcs ws))
    (hf : Fit k ∧ Fit v ∧ (∀ x ∈ ws, Fit x.k ∧ Fit x.v)) (ho : Fit o) (hn : ws.length < 40000) :
    Calls Try.prog 31 #[.pointer none, .agg #[.int .u8 kind, .string k, .string v, .string o, .bool had, .bool aft, .slice A ws.length cap]] w fun e w' => e = .returned (doA [] kind k v o had aft ws).val ∧ Turn No w w' := by
  obtain ⟨DA, hDA⟩ : ∃ a, doA [] kind k v o had aft ws = a := ⟨_, rfl⟩
  obtain ⟨DM, hDM⟩ : ∃ a, doM [] kind k v o had aft ws = a := ⟨_, rfl⟩
  have HLD := Lib.hid (And.intro hDM hDA)
  rw [hDA]
  clear hDA hDM
  obtain ⟨ev, hev⟩ : ∃ e, refO kind k v o had ws = e := ⟨_, rfl⟩
  obtain ⟨Z, hZ0⟩ : ∃ Z, Z = w.heap.size := ⟨_, rfl⟩
  have hZ : Z ≤ w.heap.size := Nat.le_of_eq hZ0
  have HF := Lib.hid (And.intro hf.1 (And.intro hf.2.1 (And.intro hf.2.2 (And.intro hZ hn))))
  have HW : Hid (True ∧ Row w A (wcs ws) ∧ True) := Lib.hid ⟨trivial, hrow, trivial⟩
  have H1 := Lib.hid (two_boxes w #[.int .u8 kind, .string k, .string v, .string o, .bool had, .bool aft, .slice A ws.length cap])
  have CR := Lib.hid fun (W : World) (t : Turn No w W) => refused_any kind k v o had aft A cap ws W (hrow.turn t fun _ _ _ h => h) hf.1 hf.2.1 ho hf.2.2 (by omega)
  rw [hev] at CR
  clear hrow hf ho hn hZ hZ0
  go_enter Try.func31, Try.ntmps31
  go_upto_region 1 with fail
  generalize (w.alloc (.cells #[.int .u8 kind, .string k, .string v, .string o, .bool had, .bool aft, .slice A ws.length cap] 34)).alloc (.cells #[.int .i64 0, .bool false, .string ⟨#[]⟩, .string ⟨#[]⟩] 38) = w1 at H1 ⊢
  obtain ⟨g0, hg0⟩ : ∃ g, w.heap.size = g := ⟨_, rfl⟩
  rw [hg0] at H1 ⊢
  obtain ⟨g, hg⟩ : ∃ g, g0 + 1 = g := ⟨_, rfl⟩
  rw [hg] at H1 ⊢
  have HG := Lib.hid (And.intro hg0 hg)
  clear hg0 hg
  have y0 := H1.out.2.1.cell 0
  have y1 := H1.out.2.1.cell 1
  have y2 := H1.out.2.1.cell 2
  have y3 := H1.out.2.1.cell 3
  have y4 := H1.out.2.1.cell 4
  have y5 := H1.out.2.1.cell 5
  have y6 := H1.out.2.1.cell 6
  simp at y0 y1 y2 y3 y4 y5 y6
  go_upto_if 9 with (go_at_call 64; refine (CR.out _ H1.out.1).mono ?_; rintro e w3 ⟨rfl, ht⟩; have H3 := Lib.hid ht; clear ht)
  clear CR y0 y1 y2 y3 y4 y5 y6
  by_cases he : ev = 0
  · have HE : Hid (refO kind k v o had ws = 0) := Lib.hid (hev.trans he)
    subst he
    clear hev
    have HS : Hid (Dq w (w3.alloc (.cells #[.slice none 0 0] 98)) Z w3.heap.size none g0 g #[.int .u8 kind, .string k, .string v, .string o, .bool had, .bool aft, .slice A ws.length cap] none []) := Lib.hid (by
      have t2 : Turn No w3 (w3.alloc (.cells #[.slice none 0 0] 98)) := (Turn.refl _ _).alloc _
      have t3 := H3.out.trans t2
      have hl := (H1.out.2.2.no H3.out).lt
      have hl0 := (H1.out.2.1.no H3.out).lt
      have e0 := HG.out
      refine ⟨⟨⟨none, 0, At.new _ _, World.ownsRow_nil _ _ _ _, rfl⟩, List.Pairwise.nil, by simp, by simp, ?_⟩, (H1.out.1.trans t3).mono (fun _ _ h => h.elim), H1.out.2.1.no t3, H1.out.2.2.no t3, by omega, ⟨by omega, by simp⟩, ⟨by omega, by simp⟩, .inl rfl⟩
      have := HF.out.2.2.2.1
      have := (H1.out.1.trans H3.out).size
      omega)
    have HN : Hid (w.heap.size ≤ w3.heap.size) := Lib.hid (H1.out.1.trans H3.out).size
    clear H1 H3
    go_upto_region 6 with fail
    generalize w3.alloc (.cells #[.slice none 0 0] 98) = w4 at HS ⊢
    generalize w3.heap.size = mb at HS HN ⊢
    have y0 := HS.out.box.cell 0
    have y1 := HS.out.box.cell 1
    have y2 := HS.out.box.cell 2
    have y3 := HS.out.box.cell 3
    have y4 := HS.out.box.cell 4
    have y5 := HS.out.box.cell 5
    have y6 := HS.out.box.cell 6
    have f0 := HS.out.res.thawed 0
    have f1 := HS.out.res.thawed 1
    have f2 := HS.out.res.thawed 2
    have f3 := HS.out.res.thawed 3
    have d0 := HS.out.res.cell 0
    have d1 := HS.out.res.cell 1
    have d2 := HS.out.res.cell 2
    have d3 := HS.out.res.cell 3
    simp [ans0] at y0 y1 y2 y3 y4 y5 y6 d0 d1 d2 d3
    by_cases q1 : kind = 1
    · subst q1
      obtain ⟨fo, hfo⟩ : ∃ b, (getL [] k).isSome = b := ⟨_, rfl⟩
      obtain ⟨vo, hvo⟩ : ∃ b, (getL [] k).getD ⟨#[]⟩ = b := ⟨_, rfl⟩
      have hga : gans (getL [] k) = ⟨0, fo, ⟨#[]⟩, vo⟩ := by unfold gans; rw [hfo, hvo]
      have HGA := Lib.hid hga
      have CC : Hid (Calls Try.prog 65 #[.pointer (some ⟨mb, 0, none⟩), .string k] w4 fun e w' => e = .returned (.agg #[.int .i64 0, .bool fo, .string ⟨#[]⟩, .string vo]) ∧ Turn No w4 w') := Lib.hid (by have := get_any HS.out.om k; rw [hga] at this; exact this)
      clear hga hfo hvo
      go_wp2_with (go_at_call 65; refine CC.out.mono ?_; rintro e w5 ⟨rfl, t⟩; replace HS := Lib.hid (HS.out.no t); clear t y0 y1 y2 y3 y4 y5 y6 f0 d0 f1 d1 f2 d2 f3 d3; have y0 := HS.out.box.cell 0; have y1 := HS.out.box.cell 1; have y2 := HS.out.box.cell 2; have y3 := HS.out.box.cell 3; have y4 := HS.out.box.cell 4; have y5 := HS.out.box.cell 5; have y6 := HS.out.box.cell 6; have f0 := HS.out.res.thawed 0; have f1 := HS.out.res.thawed 1; have f2 := HS.out.res.thawed 2; have f3 := HS.out.res.thawed 3; have d0 := HS.out.res.cell 0; have d1 := HS.out.res.cell 1; have d2 := HS.out.res.cell 2; have d3 := HS.out.res.cell 3; simp [ans0] at y0 y1 y2 y3 y4 y5 y6 d0 d1 d2 d3)
      have HZ := Lib.hid (HS.out.result (.int .i64 0) (.bool fo) (.string ⟨#[]⟩) (.string vo))
      clear HS y0 y1 y2 y3 y4 y5 y6 f0 d0 f1 d1 f2 d2 f3 d3
      generalize (((w5.setCell ⟨g, 0, none⟩ (.int .i64 0)).setCell ⟨g, 1, none⟩ (.bool fo)).setCell ⟨g, 2, none⟩ (.string ⟨#[]⟩)).setCell ⟨g, 3, none⟩ (.string vo) = w9 at HZ ⊢
      (try simp only [Exit.inBlock, Exit.then])
      refine bodyPost_ret (results_cell_row rfl _ _ g 38 _ (0, 0) _ (by rfl) HZ.out.2.2.2 Try.underlying38 rfl (by kernel_rfl)) rfl ?_
      exact ⟨by rw [← HLD.out.2, doA.eq_1, if_pos HE.out, if_pos (by decide), HGA.out]; rfl, HZ.out.2.2.1.then (Turn.refl No _) (fun _ _ h => h.elim) |>.mono (fun i hi e => by rcases e with e | e; (have := HN.out; omega); cases e)⟩
    · by_cases q2 : kind = 2
      · subst q2
        obtain ⟨fo, hfo⟩ : ∃ b, (getL [] k).isSome = b := ⟨_, rfl⟩
        obtain ⟨vo, hvo⟩ : ∃ b, (getL [] k).getD ⟨#[]⟩ = b := ⟨_, rfl⟩
        have hga : gans (getL [] k) = ⟨0, fo, ⟨#[]⟩, vo⟩ := by unfold gans; rw [hfo, hvo]
        have HGA := Lib.hid hga
        have CC : Hid (Calls Try.prog 66 #[.pointer (some ⟨mb, 0, none⟩), .string k, .string v] w4 fun e w' => e = .returned (.agg #[.int .i64 0, .bool fo, .string ⟨#[]⟩, .string vo]) ∧ ∃ rb', Om w' Z mb rb' (putL [] k v) ∧ (rb' = none ∨ ∃ k, rb' = some k ∧ w4.heap.size ≤ k) ∧ Turn (fun k => k = mb ∨ none = some k) w4 w') := Lib.hid (by have := put_any HS.out.om k v HF.out.1 HF.out.2.1 (by simp) (Nat.le_trans HF.out.2.2.2.1 HS.out.tu.size); rw [hga] at this; exact this)
        clear hga hfo hvo
        go_wp2_with (go_at_call 66; refine CC.out.mono ?_; rintro e w5 ⟨rfl, rb2, om, hr, t⟩; replace HS := Lib.hid (HS.out.step om hr t); clear om hr t y0 y1 y2 y3 y4 y5 y6 f0 d0 f1 d1 f2 d2 f3 d3; have y0 := HS.out.box.cell 0; have y1 := HS.out.box.cell 1; have y2 := HS.out.box.cell 2; have y3 := HS.out.box.cell 3; have y4 := HS.out.box.cell 4; have y5 := HS.out.box.cell 5; have y6 := HS.out.box.cell 6; have f0 := HS.out.res.thawed 0; have f1 := HS.out.res.thawed 1; have f2 := HS.out.res.thawed 2; have f3 := HS.out.res.thawed 3; have d0 := HS.out.res.cell 0; have d1 := HS.out.res.cell 1; have d2 := HS.out.res.cell 2; have d3 := HS.out.res.cell 3; simp [ans0] at y0 y1 y2 y3 y4 y5 y6 d0 d1 d2 d3)
        have HZ := Lib.hid (HS.out.result (.int .i64 0) (.bool fo) (.string ⟨#[]⟩) (.string vo))
        clear HS y0 y1 y2 y3 y4 y5 y6 f0 d0 f1 d1 f2 d2 f3 d3
        generalize (((w5.setCell ⟨g, 0, none⟩ (.int .i64 0)).setCell ⟨g, 1, none⟩ (.bool fo)).setCell ⟨g, 2, none⟩ (.string ⟨#[]⟩)).setCell ⟨g, 3, none⟩ (.string vo) = w9 at HZ ⊢
        (try simp only [Exit.inBlock, Exit.then])
        refine bodyPost_ret (results_cell_row rfl _ _ g 38 _ (0, 0) _ (by rfl) HZ.out.2.2.2 Try.underlying38 rfl (by kernel_rfl)) rfl ?_
        exact ⟨by rw [← HLD.out.2, doA.eq_1, if_pos HE.out, if_pos (by decide), HGA.out]; rfl, HZ.out.2.2.1.then (Turn.refl No _) (fun _ _ h => h.elim) |>.mono (fun i hi e => by rcases e with e | e; (have := HN.out; omega); cases e)⟩
      · by_cases q3 : kind = 3
        · subst q3
          obtain ⟨fo, hfo⟩ : ∃ b, (getL [] k).isSome = b := ⟨_, rfl⟩
          obtain ⟨vo, hvo⟩ : ∃ b, (getL [] k).getD ⟨#[]⟩ = b := ⟨_, rfl⟩
          have hga : gans (getL [] k) = ⟨0, fo, ⟨#[]⟩, vo⟩ := by unfold gans; rw [hfo, hvo]
          have HGA := Lib.hid hga
          have CC : Hid (Calls Try.prog 67 #[.pointer (some ⟨mb, 0, none⟩), .string k] w4 fun e w' => e = .returned (.agg #[.int .i64 0, .bool fo, .string ⟨#[]⟩, .string vo]) ∧ ∃ rb', Om w' Z mb rb' (delL [] k) ∧ (rb' = none ∨ ∃ k, rb' = some k ∧ w4.heap.size ≤ k) ∧ Turn (fun k => k = mb ∨ none = some k) w4 w') := Lib.hid (by have := remove_any HS.out.om k; rw [hga] at this; exact this)
          clear hga hfo hvo
          go_wp2_with (go_at_call 67; refine CC.out.mono ?_; rintro e w5 ⟨rfl, rb2, om, hr, t⟩; replace HS := Lib.hid (HS.out.step om hr t); clear om hr t y0 y1 y2 y3 y4 y5 y6 f0 d0 f1 d1 f2 d2 f3 d3; have y0 := HS.out.box.cell 0; have y1 := HS.out.box.cell 1; have y2 := HS.out.box.cell 2; have y3 := HS.out.box.cell 3; have y4 := HS.out.box.cell 4; have y5 := HS.out.box.cell 5; have y6 := HS.out.box.cell 6; have f0 := HS.out.res.thawed 0; have f1 := HS.out.res.thawed 1; have f2 := HS.out.res.thawed 2; have f3 := HS.out.res.thawed 3; have d0 := HS.out.res.cell 0; have d1 := HS.out.res.cell 1; have d2 := HS.out.res.cell 2; have d3 := HS.out.res.cell 3; simp [ans0] at y0 y1 y2 y3 y4 y5 y6 d0 d1 d2 d3)
          have HZ := Lib.hid (HS.out.result (.int .i64 0) (.bool fo) (.string ⟨#[]⟩) (.string vo))
          clear HS y0 y1 y2 y3 y4 y5 y6 f0 d0 f1 d1 f2 d2 f3 d3
          generalize (((w5.setCell ⟨g, 0, none⟩ (.int .i64 0)).setCell ⟨g, 1, none⟩ (.bool fo)).setCell ⟨g, 2, none⟩ (.string ⟨#[]⟩)).setCell ⟨g, 3, none⟩ (.string vo) = w9 at HZ ⊢
          (try simp only [Exit.inBlock, Exit.then])
          refine bodyPost_ret (results_cell_row rfl _ _ g 38 _ (0, 0) _ (by rfl) HZ.out.2.2.2 Try.underlying38 rfl (by kernel_rfl)) rfl ?_
          exact ⟨by rw [← HLD.out.2, doA.eq_1, if_pos HE.out, if_pos (by decide), HGA.out]; rfl, HZ.out.2.2.1.then (Turn.refl No _) (fun _ _ h => h.elim) |>.mono (fun i hi e => by rcases e with e | e; (have := HN.out; omega); cases e)⟩
        · by_cases q4 : kind = 4
          · subst q4
            have CC := Lib.hid (swap_any HS.out.om 4 k v o had aft A ws.length cap ⟨HF.out.1, HF.out.2.1⟩ (by simp) (Nat.le_trans HF.out.2.2.2.1 HS.out.tu.size))
            obtain ⟨sd, hsd⟩ : ∃ b, swD [] k o had = b := ⟨_, rfl⟩
            obtain ⟨vo, hvo⟩ : ∃ b, (getL [] k).getD ⟨#[]⟩ = b := ⟨_, rfl⟩
            obtain ⟨L3, hL3⟩ : ∃ L3, (if swD [] k o had = true then putL [] k v else []) = L3 := ⟨_, rfl⟩
            rw [hL3, hsd, hvo] at CC
            have HGA := Lib.hid (And.intro hL3 (And.intro hsd hvo))
            clear hsd hvo hL3
            go_wp2_with (go_at_call 68; refine CC.out.mono ?_; rintro e w5 ⟨rfl, rb2, om, hr, t⟩; replace HS := Lib.hid (HS.out.step om hr t); clear om hr t y0 y1 y2 y3 y4 y5 y6 f0 d0 f1 d1 f2 d2 f3 d3; have y0 := HS.out.box.cell 0; have y1 := HS.out.box.cell 1; have y2 := HS.out.box.cell 2; have y3 := HS.out.box.cell 3; have y4 := HS.out.box.cell 4; have y5 := HS.out.box.cell 5; have y6 := HS.out.box.cell 6; have f0 := HS.out.res.thawed 0; have f1 := HS.out.res.thawed 1; have f2 := HS.out.res.thawed 2; have f3 := HS.out.res.thawed 3; have d0 := HS.out.res.cell 0; have d1 := HS.out.res.cell 1; have d2 := HS.out.res.cell 2; have d3 := HS.out.res.cell 3; simp [ans0] at y0 y1 y2 y3 y4 y5 y6 d0 d1 d2 d3)
            have HZ := Lib.hid (HS.out.result (.int .i64 0) (.bool sd) (.string ⟨#[]⟩) (.string vo))
            clear HS y0 y1 y2 y3 y4 y5 y6 f0 d0 f1 d1 f2 d2 f3 d3
            generalize (((w5.setCell ⟨g, 0, none⟩ (.int .i64 0)).setCell ⟨g, 1, none⟩ (.bool sd)).setCell ⟨g, 2, none⟩ (.string ⟨#[]⟩)).setCell ⟨g, 3, none⟩ (.string vo) = w9 at HZ ⊢
            (try simp only [Exit.inBlock, Exit.then])
            refine bodyPost_ret (results_cell_row rfl _ _ g 38 _ (0, 0) _ (by rfl) HZ.out.2.2.2 Try.underlying38 rfl (by kernel_rfl)) rfl ?_
            exact ⟨by rw [← HLD.out.2, doA.eq_1, if_pos HE.out, if_neg (by decide), if_pos rfl, HGA.out.2.1, HGA.out.2.2]; rfl, HZ.out.2.2.1.then (Turn.refl No _) (fun _ _ h => h.elim) |>.mono (fun i hi e => by rcases e with e | e; (have := HN.out; omega); cases e)⟩
          · by_cases q5 : kind = 5
            · subst q5
              have CC := Lib.hid (next_any HS.out.om k aft)
              obtain ⟨an, han⟩ : ∃ b, nans (nexts [] k aft) = b := ⟨_, rfl⟩
              obtain ⟨ac, af, ak, av⟩ := an
              rw [han] at CC
              unfold Ans.val at CC
              have HGA := Lib.hid han
              clear han
              go_wp2_with (go_at_call 69; refine CC.out.mono ?_; rintro e w5 ⟨rfl, t⟩; replace HS := Lib.hid (HS.out.no t); clear t y0 y1 y2 y3 y4 y5 y6 f0 d0 f1 d1 f2 d2 f3 d3; have y0 := HS.out.box.cell 0; have y1 := HS.out.box.cell 1; have y2 := HS.out.box.cell 2; have y3 := HS.out.box.cell 3; have y4 := HS.out.box.cell 4; have y5 := HS.out.box.cell 5; have y6 := HS.out.box.cell 6; have f0 := HS.out.res.thawed 0; have f1 := HS.out.res.thawed 1; have f2 := HS.out.res.thawed 2; have f3 := HS.out.res.thawed 3; have d0 := HS.out.res.cell 0; have d1 := HS.out.res.cell 1; have d2 := HS.out.res.cell 2; have d3 := HS.out.res.cell 3; simp [ans0] at y0 y1 y2 y3 y4 y5 y6 d0 d1 d2 d3)
              have HZ := Lib.hid (HS.out.result (.int .i64 ac) (.bool af) (.string ak) (.string av))
              clear HS y0 y1 y2 y3 y4 y5 y6 f0 d0 f1 d1 f2 d2 f3 d3
              generalize (((w5.setCell ⟨g, 0, none⟩ (.int .i64 ac)).setCell ⟨g, 1, none⟩ (.bool af)).setCell ⟨g, 2, none⟩ (.string ak)).setCell ⟨g, 3, none⟩ (.string av) = w9 at HZ ⊢
              (try simp only [Exit.inBlock, Exit.then])
              refine bodyPost_ret (results_cell_row rfl _ _ g 38 _ (0, 0) _ (by rfl) HZ.out.2.2.2 Try.underlying38 rfl (by kernel_rfl)) rfl ?_
              exact ⟨by rw [← HLD.out.2, doA.eq_1, if_pos HE.out, if_neg (by decide), if_neg (by decide), if_pos rfl, HGA.out]; rfl, HZ.out.2.2.1.then (Turn.refl No _) (fun _ _ h => h.elim) |>.mono (fun i hi e => by rcases e with e | e; (have := HN.out; omega); cases e)⟩
            · by_cases q6 : kind = 6
              · subst q6
                have CC := Lib.hid (write_any HS.out.om ws A cap (row_sep HW.out.2.1 HS.out.tu (row_old HW.out.2.1 HN.out)) (row_old HW.out.2.1 HN.out) HF.out.2.2.1 (by have := HF.out.2.2.2.2; simp; omega) (Nat.le_trans HF.out.2.2.2.1 HS.out.tu.size))
                go_wp2_with (go_at_call 70; refine CC.out.mono ?_; rintro e w5 ⟨rfl, rb2, om, hr, t⟩; replace HS := Lib.hid (HS.out.step om hr t); clear om hr t y0 y1 y2 y3 y4 y5 y6 f0 d0 f1 d1 f2 d2 f3 d3; have y0 := HS.out.box.cell 0; have y1 := HS.out.box.cell 1; have y2 := HS.out.box.cell 2; have y3 := HS.out.box.cell 3; have y4 := HS.out.box.cell 4; have y5 := HS.out.box.cell 5; have y6 := HS.out.box.cell 6; have f0 := HS.out.res.thawed 0; have f1 := HS.out.res.thawed 1; have f2 := HS.out.res.thawed 2; have f3 := HS.out.res.thawed 3; have d0 := HS.out.res.cell 0; have d1 := HS.out.res.cell 1; have d2 := HS.out.res.cell 2; have d3 := HS.out.res.cell 3; simp [ans0] at y0 y1 y2 y3 y4 y5 y6 d0 d1 d2 d3)
                have HZ := Lib.hid (HS.out.result (.int .i64 0) (.bool false) (.string ⟨#[]⟩) (.string ⟨#[]⟩))
                clear HS y0 y1 y2 y3 y4 y5 y6 f0 d0 f1 d1 f2 d2 f3 d3
                generalize (((w5.setCell ⟨g, 0, none⟩ (.int .i64 0)).setCell ⟨g, 1, none⟩ (.bool false)).setCell ⟨g, 2, none⟩ (.string ⟨#[]⟩)).setCell ⟨g, 3, none⟩ (.string ⟨#[]⟩) = w9 at HZ ⊢
                (try simp only [Exit.inBlock, Exit.then])
                refine bodyPost_ret (results_cell_row rfl _ _ g 38 _ (0, 0) _ (by rfl) HZ.out.2.2.2 Try.underlying38 rfl (by kernel_rfl)) rfl ?_
                exact ⟨by rw [← HLD.out.2, doA.eq_1, if_pos HE.out, if_neg (by decide), if_neg (by decide), if_neg (by decide)]; rfl, HZ.out.2.2.1.then (Turn.refl No _) (fun _ _ h => h.elim) |>.mono (fun i hi e => by rcases e with e | e; (have := HN.out; omega); cases e)⟩
              · exfalso
                have := HE.out
                unfold refO at this
                rw [if_neg (by omega), if_neg q2, if_neg q4, if_neg q6] at this
                cases this
  · have HE : Hid (¬ refO kind k v o had ws = 0 ∧ refO kind k v o had ws = ev) := Lib.hid ⟨hev ▸ he, hev⟩
    clear hev
    have HS : Hid (Res w w3 g ans0) := Lib.hid ⟨H1.out.1.trans H3.out, by have := HG.out; omega, H1.out.2.2.no H3.out⟩
    clear H1 H3
    have f0 := HS.out.at_.thawed 0
    have f1 := HS.out.at_.thawed 1
    have f2 := HS.out.at_.thawed 2
    have f3 := HS.out.at_.thawed 3
    have d0 := HS.out.at_.cell 0
    have d1 := HS.out.at_.cell 1
    have d2 := HS.out.at_.cell 2
    have d3 := HS.out.at_.cell 3
    simp [ans0] at d0 d1 d2 d3
    go_wp2_with fail
    have HZ := Lib.hid (HS.out.all (.int .i64 ev) (.bool false) (.string ⟨#[]⟩) (.string ⟨#[]⟩))
    clear HS f0 f1 f2 f3 d0 d1 d2 d3
    generalize (((w3.setCell ⟨g, 0, none⟩ (.int .i64 ev)).setCell ⟨g, 1, none⟩ (.bool false)).setCell ⟨g, 2, none⟩ (.string ⟨#[]⟩)).setCell ⟨g, 3, none⟩ (.string ⟨#[]⟩) = w9 at HZ ⊢
    (try simp only [Exit.inBlock, Exit.then])
    refine bodyPost_ret (results_cell_row rfl _ _ g 38 _ (0, 0) _ (by rfl) HZ.out.at_ Try.underlying38 rfl (by kernel_rfl)) rfl ?_
    exact ⟨by rw [← HLD.out.2, doA.eq_1, if_neg HE.out.1, HE.out.2]; rfl, HZ.out.tu⟩
end Go.Proofs.Ytllppkfeiifklaa
namespace Go.Proofs.Ytllppkfeiifklaa
open Go.RowKit Go.Lib
set_option linter.unusedVariables false
set_option maxRecDepth 20000
set_option linter.unusedSimpArgs false

/-- A row that is being written: its first kk pairs stand. -/
structure Lw (w wr : World) (lb : Nat) (l : List Pr) (kk : Nat) : Prop where
  tu : Turn No w wr
  old : w.heap.size ≤ lb
  cur : ∃ cur : Array Value, At wr lb (.cells cur 47 (0, 0)) ∧ cur.size = l.length * 2 ∧ ∀ (j : Nat) (u : Value), (pcs (l.take kk))[j]? = some u → cur[j]? = some u
section
variable {w wr w2 : World} {lb kk : Nat} {l : List Pr}
theorem Lw.no (h : Lw w wr lb l kk) (t : Turn No wr w2) : Lw w w2 lb l kk := by
  obtain ⟨cur, h1, h2, h3⟩ := h.cur
  exact ⟨h.tu.trans t, h.old, cur, h1.no t, h2, h3⟩
theorem Lw.there (h : Lw w wr lb l kk) (i : Nat) (hi : i < l.length * 2) : ∃ u, wr.cell? ⟨lb, i, none⟩ = some u := by
  obtain ⟨cur, h1, h2, _⟩ := h.cur
  exact ⟨cur[i]'(by omega), by rw [h1.cell, Array.getElem?_eq_getElem]⟩
theorem Lw.thawed (h : Lw w wr lb l kk) (i : Nat) : wr.frozen? ⟨lb, i, none⟩ = false := by
  obtain ⟨cur, h1, _⟩ := h.cur
  exact h1.thawed i
theorem Lw.put (h : Lw w wr lb l kk) {p : Pr} (hp : l[kk]? = some p) : Lw w ((wr.setCell ⟨lb, kk * 2, none⟩ (.string p.k)).setCell ⟨lb, kk * 2 + 1, none⟩ (.string p.v)) lb l (kk + 1) := by
  obtain ⟨cur, h1, h2, h3⟩ := h.cur
  have hk : kk < l.length := (List.getElem?_eq_some_iff.1 hp).1
  refine ⟨(h.tu.setCell (p := ⟨lb, kk * 2, none⟩) (Or.inr h.old) _).setCell (p := ⟨lb, kk * 2 + 1, none⟩) (Or.inr h.old) _, h.old, _, (h1.set _ _).set _ _, by simpa using h2, fun j u hj => ?_⟩
  rw [List.take_add_one, hp, pcs_append] at hj
  have hl : (pcs (l.take kk)).length = kk * 2 := by rw [pcs_length, List.length_take]; omega
  rw [Array.getElem?_setIfInBounds, Array.getElem?_setIfInBounds]
  by_cases j1 : j < kk * 2
  · rw [if_neg (by omega), if_neg (by omega)]
    rw [List.getElem?_append_left (by omega)] at hj
    exact h3 j u hj
  · rw [List.getElem?_append_right (by omega), hl] at hj
    simp only [Option.toList_some, pcs, List.flatMap_cons, List.flatMap_nil, Pr.cs, List.append_nil] at hj
    have hb : j - kk * 2 < 2 := by
      have := (List.getElem?_eq_some_iff.1 hj).1
      simpa using this
    rcases (by omega : j = kk * 2 ∨ j = kk * 2 + 1) with e | e
    · subst e
      simp at hj
      rw [if_neg (by omega), if_pos rfl, if_pos (by omega), hj]
    · subst e
      rw [show kk * 2 + 1 - kk * 2 = 1 by omega] at hj
      simp at hj
      rw [if_pos rfl, if_pos (by simp; omega), hj]
theorem Lw.own (h : Lw w wr lb l l.length) (hn : l.length ≤ 100000) : wr.ownsRow w.heap.size 47 2 (.slice (some ⟨lb, 0, none⟩) l.length l.length) l.length (pcs l) := by
  obtain ⟨cur, h1, h2, h3⟩ := h.cur
  rw [List.take_length] at h3
  refine ⟨pcs_length l, .inr ⟨lb, l.length, cur, rfl, h.old, h1, Nat.le_refl _, by unfold maxLen; omega, h2, ?_⟩⟩
  apply List.ext_getElem?
  intro j
  rw [List.getElem?_take]
  split
  · rename_i hj
    obtain ⟨u, hu⟩ : ∃ u, (pcs l)[j]? = some u := ⟨_, List.getElem?_eq_getElem (by rw [pcs_length]; exact hj)⟩
    rw [hu, Array.getElem?_toList]
    exact h3 j u hu
  · rename_i hj
    rw [List.getElem?_eq_none (by rw [pcs_length]; omega)]
end

set_option maxHeartbeats 2000000 in
theorem clonePairs_any (l : List Pr) (A : Option Addr) (cap : Nat) (w : World) (h : Row w A (pcs l)) (hf : ∀ p ∈ l, Fit p.k ∧ Fit p.v) (hn : l.length ≤ 100000) :
    Calls Try.prog 63 #[.slice A l.length cap] w fun e w' => ∃ B, e = .returned (.slice (some ⟨B, 0, none⟩) l.length l.length) ∧ w'.ownsRow w.heap.size 47 2 (.slice (some ⟨B, 0, none⟩) l.length l.length) l.length (pcs l) ∧ Turn No w w' := by
  obtain ⟨i0, hi0, hz0, hz1, hz2⟩ := info_parts info50
  have qm : ∀ W : World, (Instr.makeSlice 22 (.int .i64 (l.length : Int)) (.int .i64 (l.length : Int))).run Try.prog W = .ok (.slice (some ⟨W.heap.size, 0, none⟩) l.length l.length) (W.alloc (.cells (madeCells #[.string ⟨#[]⟩, .string ⟨#[]⟩] (l.length * 2)) 47)) := fun W => by
    have := run_make (P := Try.prog) W 22 47 i0 _ Try.underlying22 hi0 hz0 .i64 .i64 (l.length : Int) (l.length : Int) (by omega) (by omega) (by rw [hz2]; omega) (by omega)
    simpa [hz1, Value.cells] using this
  have hL0 : Hid (Lw w (w.alloc (.cells (madeCells #[.string ⟨#[]⟩, .string ⟨#[]⟩] (l.length * 2)) 47)) w.heap.size l 0) :=
    Lib.hid ⟨(Turn.refl _ _).alloc _, Nat.le_refl _, _, At.new _ _, by rw [size_madeCells], by intro j u hj; simp [pcs] at hj⟩
  have HR := Lib.hid (And.intro h (And.intro hf hn))
  clear h hf hi0 hz0 hz1 hz2
  go_enter Try.func63, Try.ntmps63
  go_upto_region 2 with (fail)
  generalize (w.alloc (.cells (madeCells #[.string ⟨#[]⟩, .string ⟨#[]⟩] (l.length * 2)) 47)) = w1 at hL0 ⊢
  generalize w.heap.size = lb at hL0 ⊢
  go_wp2_with fail
  go_loopw [11] (fun i wr => ∃ kk : Nat, kk ≤ l.length ∧ i = .int .i64 (kk : Int) ∧ Hid (Lw w wr lb l kk)) (fun i _ => l.length - (RowKit.intOf i).toNat)
  case atStart => exact ⟨0, Nat.zero_le _, rfl, hL0⟩
  case round =>
    obtain ⟨kk, hm, rfl, HP⟩ := hrel
    clear hL0
    by_cases hlt : kk < l.length
    · obtain ⟨p, hp⟩ : ∃ p, l[kk]? = some p := ⟨l[kk], List.getElem?_eq_getElem hlt⟩
      obtain ⟨b, off, hA, hb, x0, x1⟩ := (HR.out.1.turn HP.out.tu fun _ _ _ h => h).pair hp
      have hfp := HR.out.2.1 p (List.mem_of_getElem? hp)
      have HX := Lib.hid hp
      obtain ⟨pk, pv⟩ := p
      simp only at x0 x1
      have tn : Turn No wr (wr.alloc (.cells #[.string pk, .string pv] 47)) := (Turn.refl _ _).alloc _
      have hAt := Lib.hid (At.new wr (.cells #[.string pk, .string pv] 47))
      have H2 := Lib.hid (HP.out.no tn)
      have CL := Lib.hid fun W => clonePair_any pk pv hfp.1 hfp.2 W
      subst hA
      clear hb hfp hp tn HP
      go_upto_region 5 with fail
      generalize wr.alloc (.cells #[.string pk, .string pv] 47) = w2 at H2 hAt ⊢
      generalize wr.heap.size = g at hAt ⊢
      clear x0 x1
      have y0 := hAt.out.cell 0
      have y1 := hAt.out.cell 1
      simp at y0 y1
      go_wp2_with (go_at_call 92; refine (CL.out _).mono ?_; rintro e w3 ⟨rfl, ht⟩; have H3 := Lib.hid (H2.out.no ht); clear ht; obtain ⟨u0, z0⟩ := H3.out.there (kk * 2) (by omega); obtain ⟨u1, z1⟩ := H3.out.there (kk * 2 + 1) (by omega); have f0 := H3.out.thawed (kk * 2); have f1 := H3.out.thawed (kk * 2 + 1))
      have HN := Lib.hid (H3.out.put HX.out)
      exact ⟨⟨kk + 1, by omega, by go_num, HN⟩, by simp [RowKit.intOf]; omega⟩
    · obtain rfl : kk = l.length := by omega
      go_wp2_with fail
      go_ret
      exact ⟨lb, rfl, HP.out.own HR.out.2.2, HP.out.tu⟩

/-- All -/
theorem all_any {w : World} {Z mb : Nat} {rb : Option Nat} {l : List Pr} (h : Om w Z mb rb l) :
    Calls Try.prog 39 #[.pointer (some ⟨mb, 0, none⟩)] w fun e w' => ∃ B, e = .returned (.slice (some ⟨B, 0, none⟩) l.length l.length) ∧ w'.ownsRow w.heap.size 47 2 (.slice (some ⟨B, 0, none⟩) l.length l.length) l.length (pcs l) ∧ Turn No w w' := by
  obtain ⟨A, cap, h0, hr, _⟩ := h.rowed
  have CC := Lib.hid (clonePairs_any l A cap w (row_of_own hr) h.fit (Nat.le_trans h.few (by decide)))
  have c0 := h0.cell 0
  simp only [List.getElem?_toArray, List.getElem?_cons_zero] at c0
  clear h0 hr h
  go_enter Try.func39, Try.ntmps39
  go_wp2_with (go_at_call 63; refine CC.out.mono ?_; rintro e w2 ⟨B, rfl, ho, ht⟩; have HE := Lib.hid (And.intro ho ht); clear ho ht)
  go_ret
  exact ⟨B, rfl, HE.out⟩
theorem all_nil (w : World) : Calls Try.prog 39 #[.pointer none] w fun e w' => e = .returned (.slice none 0 0) ∧ w' = w := by
  go_enter Try.func39, Try.ntmps39
  go_wp2_with fail
  go_ret
  exact ⟨rfl, rfl⟩

theorem clone25_nil (w : World) : Calls Try.prog 56 #[.slice none 0 0] w fun e w' => e = .returned (.slice none 0 0) ∧ w' = w := by
  have q22 : ∀ (w : World), (binOp .eql 22 (.slice none 0 0) (.slice none 0 0)).run Try.prog w = .ok (.bool true) w := fun w => run_eql_slice_nil w 22 47 none 0 0 0 0 Try.underlying22
  go_enter Try.func56, Try.ntmps56
  go_wp2_with fail
  go_ret
  exact ⟨rfl, rfl⟩
theorem rev26_nil (w : World) : Calls Try.prog 57 #[.slice none 0 0] w fun e w' => e = .returned (.tuple #[]) ∧ w' = w := by
  go_enter Try.func57, Try.ntmps57
  go_wp2_with fail
  go_loopw [2, 3] (fun i j wr => i = .int .i64 0 ∧ j = .int .i64 (-1) ∧ wr = w) (fun _ _ _ => 0)
  case atStart => exact ⟨rfl, rfl, rfl⟩
  case round =>
    obtain ⟨rfl, rfl, rfl⟩ := hrel
    go_wp2_with fail
    go_end0
    exact ⟨rfl, rfl⟩
theorem ins54_nil (w : World) : Calls Try.prog 104 #[.slice none 0 0, .int .i64 0, .int .i64 0, .func (.func 59) #[] #[]] w fun e w' => e = .returned (.tuple #[]) ∧ w' = w := by
  go_enter Try.func104, Try.ntmps104
  go_wp2_with fail
  go_loopw [8] (fun i wr => i = .int .i64 1 ∧ wr = w) (fun _ _ => 0)
  case atStart => exact ⟨rfl, rfl⟩
  case round =>
    obtain ⟨rfl, rfl⟩ := hrel
    go_wp2_with fail
    go_end0
    exact ⟨rfl, rfl⟩
theorem stab47_nil (w : World) : Calls Try.prog 90 #[.slice none 0 0, .int .i64 0, .func (.func 59) #[] #[]] w fun e w' => e = .returned (.tuple #[]) ∧ w' = w := by
  have C := Lib.hid ins54_nil
  go_enter Try.func90, Try.ntmps90
  go_wp2_with fail
  go_loopw [7, 8] (fun a b wr => a = .int .i64 0 ∧ b = .int .i64 20 ∧ wr = w) (fun _ _ _ => 0)
  case atStart => exact ⟨rfl, rfl, rfl⟩
  case round =>
    obtain ⟨rfl, rfl, rfl⟩ := hrel
    go_wp2_with (go_at_call 104; refine (C.out _).mono ?_; rintro e w' ⟨rfl, rfl⟩)
    go_loopw [6] (fun a wr => a = .int .i64 20 ∧ wr = w') (fun _ _ => 0)
    case atStart => exact ⟨rfl, rfl⟩
    case round =>
      obtain ⟨rfl, rfl⟩ := hrel
      go_wp2_with fail
      go_end0
      exact ⟨rfl, rfl⟩
theorem stab27_nil (w : World) : Calls Try.prog 58 #[.slice none 0 0, .func (.func 59) #[] #[]] w fun e w' => e = .returned (.tuple #[]) ∧ w' = w := by
  have C := Lib.hid stab47_nil
  go_enter Try.func58, Try.ntmps58
  go_wp2_with (go_at_call 90; refine (C.out _).mono ?_; rintro e w' ⟨rfl, rfl⟩)
  go_end0
  exact ⟨rfl, rfl⟩
theorem comp30_nil (w : World) : Calls Try.prog 61 #[.slice none 0 0, .func (.func 62) #[] #[]] w fun e w' => e = .returned (.slice none 0 0) ∧ w' = w := by
  go_enter Try.func61, Try.ntmps61
  go_wp2_with fail
  go_ret
  exact ⟨rfl, rfl⟩
/-- New of nothing. -/
theorem new_nil (w : World) {Z : Nat} (hZ : Z ≤ w.heap.size) :
    Calls Try.prog 28 #[.slice none 0 0] w fun e w' => ∃ mb rb, e = .returned (.pointer (some ⟨mb, 0, none⟩)) ∧ Om w' Z mb (some rb) [] ∧ w.heap.size ≤ mb ∧ w.heap.size ≤ rb ∧ Turn No w w' := by
  have C1 := Lib.hid clone25_nil
  have C2 := Lib.hid rev26_nil
  have C3 := Lib.hid stab27_nil
  have C4 := Lib.hid comp30_nil
  have C5 : Hid (∀ w, Calls Try.prog 63 #[.slice none 0 0] w fun e w' => ∃ B, e = .returned (.slice (some ⟨B, 0, none⟩) 0 0) ∧ w'.ownsRow w.heap.size 47 2 (.slice (some ⟨B, 0, none⟩) 0 0) 0 [] ∧ Turn No w w') := Lib.hid fun w => clonePairs_any [] none 0 w (Row.nil _ _) (by simp) (by simp)
  go_enter Try.func28, Try.ntmps28
  go_wp2_with (first | (go_at_call 56; refine (C1.out _).mono ?_; rintro e w' ⟨rfl, rfl⟩) | (go_at_call 57; refine (C2.out _).mono ?_; rintro e w' ⟨rfl, rfl⟩) | (go_at_call 58; refine (C3.out _).mono ?_; rintro e w' ⟨rfl, rfl⟩) | (go_at_call 61; refine (C4.out _).mono ?_; rintro e w' ⟨rfl, rfl⟩) | (go_at_call 63; refine (C5.out _).mono ?_; rintro e w5 ⟨B, rfl, ho, ht⟩))
  go_ret
  have hlt := ho.lt B rfl
  refine ⟨_, B, rfl, ⟨⟨some ⟨B, 0, none⟩, 0, At.new _ _, ?_, rfl⟩, List.Pairwise.nil, by simp, by simp, Nat.le_trans hZ ht.size⟩, ht.size, hlt.1, ht.alloc _⟩
  exact ((ho.alloc _).mono hZ : _)
end Go.Proofs.Ytllppkfeiifklaa
namespace Go.Proofs.Ytllppkfeiifklaa
open Go.RowKit Go.Lib
set_option linter.unusedVariables false
set_option maxRecDepth 20000
set_option linter.unusedSimpArgs false

theorem eqf_cons {P : Program} {d : Nat} {xs ys : Array Value} {f : Field} {fs : List Field} {w : World} {a b : Value} {r : Bool} (hne : f.name ≠ "_") (ha : (part f.type xs f.offset).run P w = .ok a w) (hb : (part f.type ys f.offset).run P w = .ok b w)
    (h : (Op.equalIn d f.type a b).run P w = .ok r w) : (Op.eqFields d xs ys (f :: fs)).run P w = if r then (Op.eqFields d xs ys fs).run P w else .ok false w := by
  rw [Op.eqFields, if_pos hne]
  simp only [Sem.run_bind, ha, hb, h, Result.andThen_ok]
  cases r <;> simp
theorem eqf_nil {P : Program} {d : Nat} {xs ys : Array Value} {w : World} : (Op.eqFields d xs ys []).run P w = .ok true w := rfl
def ansEq (c1 c2 : Int) (f1 f2 : Bool) (k1 k2 v1 v2 : ByteArray) : Bool := decide (c1 = c2) && decide (f1 = f2) && decide (k1 = k2) && decide (v1 = v2)
theorem ansEq_same (c : Int) (f : Bool) (k v : ByteArray) : ansEq c c f f k k v v = true := by simp [ansEq]
theorem ansEq_iff {c1 c2 : Int} {f1 f2 : Bool} {k1 k2 v1 v2 : ByteArray} : ansEq c1 c2 f1 f2 k1 k2 v1 v2 = true ↔ (⟨c1, f1, k1, v1⟩ : Ans) = ⟨c2, f2, k2, v2⟩ := by
  simp [ansEq, and_assoc]
set_option maxRecDepth 10000 in
theorem eql_ans (c1 c2 : Int) (f1 f2 : Bool) (k1 k2 v1 v2 : ByteArray) (w : World) : (binOp .eql 38 (.agg #[.int .i64 c1, .bool f1, .string k1, .string v1]) (.agg #[.int .i64 c2, .bool f2, .string k2, .string v2])).run Try.prog w = .ok (.bool (ansEq c1 c2 f1 f2 k1 k2 v1 v2)) w := by
  rw [run_eql_struct]
  rw [show (10000 : Nat) = 9998 + 1 + 1 from rfl, run_equalIn_struct (P := Try.prog) w (9998 + 1) 38 #[.int .i64 c1, .bool f1, .string k1, .string v1] #[.int .i64 c2, .bool f2, .string k2, .string v2] (by kernel_rfl) (by kernel_rfl)]
  simp only [Program.fieldsOf, Try.underlying38]
  rw [eqf_cons (by decide) (by rfl) (by rfl) (run_equalIn_int w 9998 26 .i64 .i64 c1 c2 (by kernel_rfl)),
    eqf_cons (by decide) (by rfl) (by rfl) (run_equalIn_bool' w 9998 4 f1 f2 (by kernel_rfl)),
    eqf_cons (by decide) (by rfl) (by rfl) (run_equalIn_string w 9998 9 k1 k2 (by kernel_rfl)),
    eqf_cons (by decide) (by rfl) (by rfl) (run_equalIn_string w 9998 9 v1 v2 (by kernel_rfl)), eqf_nil]
  rw [bytes_beq, bytes_beq]
  unfold ansEq
  by_cases a1 : c1 = c2 <;> by_cases a2 : f1 = f2 <;> by_cases a3 : k1 = k2 <;> by_cases a4 : v1 = v2 <;> simp [a1, a2, a3, a4, Result.andThen]
set_option maxRecDepth 10000 in
theorem neq_ans (c1 c2 : Int) (f1 f2 : Bool) (k1 k2 v1 v2 : ByteArray) (w : World) : (binOp .neq 38 (.agg #[.int .i64 c1, .bool f1, .string k1, .string v1]) (.agg #[.int .i64 c2, .bool f2, .string k2, .string v2])).run Try.prog w = .ok (.bool (!ansEq c1 c2 f1 f2 k1 k2 v1 v2)) w := by
  rw [run_neq_struct]
  rw [show (10000 : Nat) = 9998 + 1 + 1 from rfl, run_equalIn_struct (P := Try.prog) w (9998 + 1) 38 #[.int .i64 c1, .bool f1, .string k1, .string v1] #[.int .i64 c2, .bool f2, .string k2, .string v2] (by kernel_rfl) (by kernel_rfl)]
  simp only [Program.fieldsOf, Try.underlying38]
  rw [eqf_cons (by decide) (by rfl) (by rfl) (run_equalIn_int w 9998 26 .i64 .i64 c1 c2 (by kernel_rfl)),
    eqf_cons (by decide) (by rfl) (by rfl) (run_equalIn_bool' w 9998 4 f1 f2 (by kernel_rfl)),
    eqf_cons (by decide) (by rfl) (by rfl) (run_equalIn_string w 9998 9 k1 k2 (by kernel_rfl)),
    eqf_cons (by decide) (by rfl) (by rfl) (run_equalIn_string w 9998 9 v1 v2 (by kernel_rfl)), eqf_nil]
  rw [bytes_beq, bytes_beq]
  unfold ansEq
  by_cases a1 : c1 = c2 <;> by_cases a2 : f1 = f2 <;> by_cases a3 : k1 = k2 <;> by_cases a4 : v1 = v2 <;> simp [a1, a2, a3, a4, Result.andThen]
def prEq (k1 k2 v1 v2 : ByteArray) : Bool := decide (k1 = k2) && decide (v1 = v2)
theorem prEq_iff {p q : Pr} : prEq p.k q.k p.v q.v = true ↔ p = q := by
  obtain ⟨a, b⟩ := p
  obtain ⟨c, d⟩ := q
  simp [prEq]
set_option maxRecDepth 10000 in
theorem eql_pr (k1 k2 v1 v2 : ByteArray) (w : World) : (binOp .eql 47 (.agg #[.string k1, .string v1]) (.agg #[.string k2, .string v2])).run Try.prog w = .ok (.bool (prEq k1 k2 v1 v2)) w := by
  rw [run_eql_struct]
  rw [show (10000 : Nat) = 9998 + 1 + 1 from rfl, run_equalIn_struct (P := Try.prog) w (9998 + 1) 47 #[.string k1, .string v1] #[.string k2, .string v2] (by kernel_rfl) (by kernel_rfl)]
  simp only [Program.fieldsOf, Try.underlying47]
  rw [eqf_cons (by decide) (by rfl) (by rfl) (run_equalIn_string w 9998 9 k1 k2 (by kernel_rfl)),
    eqf_cons (by decide) (by rfl) (by rfl) (run_equalIn_string w 9998 9 v1 v2 (by kernel_rfl)), eqf_nil]
  rw [bytes_beq, bytes_beq]
  unfold prEq
  by_cases a3 : k1 = k2 <;> by_cases a4 : v1 = v2 <;> simp [a3, a4, Result.andThen]
set_option maxRecDepth 10000 in
theorem neq_pr (k1 k2 v1 v2 : ByteArray) (w : World) : (binOp .neq 47 (.agg #[.string k1, .string v1]) (.agg #[.string k2, .string v2])).run Try.prog w = .ok (.bool (!prEq k1 k2 v1 v2)) w := by
  rw [run_neq_struct]
  rw [show (10000 : Nat) = 9998 + 1 + 1 from rfl, run_equalIn_struct (P := Try.prog) w (9998 + 1) 47 #[.string k1, .string v1] #[.string k2, .string v2] (by kernel_rfl) (by kernel_rfl)]
  simp only [Program.fieldsOf, Try.underlying47]
  rw [eqf_cons (by decide) (by rfl) (by rfl) (run_equalIn_string w 9998 9 k1 k2 (by kernel_rfl)),
    eqf_cons (by decide) (by rfl) (by rfl) (run_equalIn_string w 9998 9 v1 v2 (by kernel_rfl)), eqf_nil]
  rw [bytes_beq, bytes_beq]
  unfold prEq
  by_cases a3 : k1 = k2 <;> by_cases a4 : v1 = v2 <;> simp [a3, a4, Result.andThen]

/-- Blocks of other types are no part of a map. -/
theorem Om.apart {w : World} {Z mb g : Nat} {rb : Option Nat} {l : List Pr} {c : Array Value} {t : TypeId} {f : Nat × Nat} (h : Om w Z mb rb l) (hg : At w g (.cells c t f)) (h1 : t ≠ 98) (h2 : t ≠ 47) : g ≠ mb ∧ rb ≠ some g := by
  obtain ⟨A, cap, hm, hr, hb⟩ := h.rowed
  refine ⟨At.ne hg hm (fun e => by injection e with _ e; exact h1 e), fun e => ?_⟩
  rcases hr.2 with ⟨hv, _⟩ | ⟨g', c', cur, hv, _, hg', _⟩
  · rw [hv, e] at hb; cases hb
  · rw [hv, e] at hb
    injection hb with hb
    exact At.ne hg hg' (fun e => by injection e with _ e; exact h2 e) hb.symm
/-- A map that is new since w, and answers in cells of their own. -/
structure Wk (w wr : World) (mb : Nat) (rb : Option Nat) (l : List Pr) (acs : List (Nat × Ans)) : Prop where
  om : Om wr w.heap.size mb rb l
  tu : Turn No w wr
  cells : ∀ x ∈ acs, At wr x.1 (.cells x.2.ar 38 (0, 0))
section
variable {w wr w2 : World} {mb : Nat} {rb : Option Nat} {l : List Pr} {acs : List (Nat × Ans)}
theorem Wk.no (h : Wk w wr mb rb l acs) (t : Turn No wr w2) : Wk w w2 mb rb l acs := ⟨h.om.no t, h.tu.trans t, fun x hx => (h.cells x hx).no t⟩
theorem Wk.step (h : Wk w wr mb rb l acs) {rb2 : Option Nat} {l2 : List Pr} (om : Om w2 w.heap.size mb rb2 l2) (t : Turn (fun k => k = mb ∨ rb = some k) wr w2) : Wk w w2 mb rb2 l2 acs := by
  refine ⟨om, h.tu.then t (fun i hi e => ?_), fun x hx => ?_⟩
  · rcases e with e | e
    · have := h.om.mb_new; omega
    · have := (h.om.rb_lt e).1; omega
  · have := h.om.apart (h.cells x hx) (by decide) (by decide)
    exact (h.cells x hx).turn t (fun e => e.elim this.1 this.2)
theorem Wk.push (h : Wk w wr mb rb l acs) (a : Ans) : Wk w (wr.alloc (.cells a.ar 38)) mb rb l (acs ++ [(wr.heap.size, a)]) := by
  have t : Turn No wr (wr.alloc (.cells a.ar 38)) := (Turn.refl _ _).alloc _
  refine ⟨h.om.no t, h.tu.trans t, fun x hx => ?_⟩
  rcases List.mem_append.1 hx with h1 | h1
  · exact (h.cells x h1).no t
  · obtain rfl := List.mem_singleton.1 h1
    exact At.new _ _
/-- An operation without writes. -/
theorem do_wk (h : Wk w wr mb rb l acs) (kind : Int) (k v o : ByteArray) (had aft : Bool) (hk : Fit k) (hv : Fit v) (ho : Fit o) (hn : l.length < 40000) {a : Ans} {l2 : List Pr} (ha : doA l kind k v o had aft [] = a) (hl : doM l kind k v o had aft [] = l2) :
    Calls Try.prog 31 #[.pointer (some ⟨mb, 0, none⟩), .agg #[.int .u8 kind, .string k, .string v, .string o, .bool had, .bool aft, .slice none 0 0]] wr fun e w' => e = .returned (.agg #[.int .i64 a.code, .bool a.found, .string a.k, .string a.v]) ∧ ∃ rb', Wk w w' mb rb' l2 acs := by
  refine (do_any h.om kind k v o had aft none 0 [] (Row.nil _ _) (by intro b o hA; cases hA) ⟨hk, hv, by simp⟩ ho h.tu.size (by simpa using hn)).mono ?_
  rintro e w' ⟨rfl, rb', om, _, t⟩
  rw [ha]
  rw [hl] at om
  exact ⟨rfl, rb', h.step om t⟩
end
theorem fitS (a : ByteArray) (h : a.size ≤ 1000) : Fit a := Nat.le_trans h (by decide)

end Go.Proofs.Ytllppkfeiifklaa
