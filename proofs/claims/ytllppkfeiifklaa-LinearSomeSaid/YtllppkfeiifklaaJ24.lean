/-
  The document's Do.
-/
import Derived.Test.YtllppkfeiifklaaJ22
import Derived.Test.YtllppkfeiifklaaJ23
namespace Go.Proofs.Ytllppkfeiifklaa
open Go.RowKit Go.Lib
set_option linter.unusedVariables false
set_option maxRecDepth 20000
set_option linter.unusedSimpArgs false

set_option maxRecDepth 100000 in
set_option maxHeartbeats 16000000 in
theorem rdo_2 (R M : List Pr) (A : Option Addr) (cap : Nat) (kind : Int) (k v o : ByteArray) (had aft : Bool) (A3 : Option Addr) (cap3 : Nat) (ws : List Wr) (w : World) {Z : Nat} (hZ : Z ≤ w.heap.size) (hR : w.ownsRow Z 47 2 (.slice A R.length cap) R.length (pcs R)) (hl : R.length + ws.length ≤ 40000)
    (hfit : ∀ p ∈ R, Fit p.k ∧ Fit p.v) (hs : Sim R M) (ha : Asc M) (hrow : Row w A3 (wcs ws)) (hf : Fit k ∧ Fit v ∧ Fit o) (hfw : ∀ x ∈ ws, Fit x.k ∧ Fit x.v) (hq : kind = 2) :
    Calls Try.prog 36 #[.agg #[.slice A R.length cap], .agg #[.int .u8 kind, .string k, .string v, .string o, .bool had, .bool aft, .slice A3 ws.length cap3]] w (RDo Z w (.slice A R.length cap) (doR R kind k v o had aft ws) (doA M kind k v o had aft ws)) := by
  obtain ⟨DA, hDA⟩ : ∃ a, doA M kind k v o had aft ws = a := ⟨_, rfl⟩
  obtain ⟨DR, hDR⟩ : ∃ a, doR R kind k v o had aft ws = a := ⟨_, rfl⟩
  have HLD := Lib.hid (And.intro hDR hDA)
  rw [hDA, hDR]
  clear hDA hDR
  have HS : Hid (Dr Z w ((((w.alloc (.cells #[.slice A R.length cap] 60)).alloc (.cells #[.int .u8 kind, .string k, .string v, .string o, .bool had, .bool aft, .slice A3 ws.length cap3] 34)).alloc (.cells #[.slice none 0 0] 60)).alloc (.cells #[.int .i64 0, .bool false, .string ⟨#[]⟩, .string ⟨#[]⟩] 38)) w.heap.size (w.heap.size + 1) (w.heap.size + 2) (w.heap.size + 3) #[.int .u8 kind, .string k, .string v, .string o, .bool had, .bool aft, .slice A3 ws.length cap3] (.slice A R.length cap) R R.length A cap) := Lib.hid (by
    have t1 : Turn No w (w.alloc (.cells #[.slice A R.length cap] 60)) := (Turn.refl _ _).alloc _
    have t2 : Turn No (w.alloc (.cells #[.slice A R.length cap] 60)) ((w.alloc (.cells #[.slice A R.length cap] 60)).alloc (.cells #[.int .u8 kind, .string k, .string v, .string o, .bool had, .bool aft, .slice A3 ws.length cap3] 34)) := (Turn.refl _ _).alloc _
    have t3 : Turn No ((w.alloc (.cells #[.slice A R.length cap] 60)).alloc (.cells #[.int .u8 kind, .string k, .string v, .string o, .bool had, .bool aft, .slice A3 ws.length cap3] 34)) (((w.alloc (.cells #[.slice A R.length cap] 60)).alloc (.cells #[.int .u8 kind, .string k, .string v, .string o, .bool had, .bool aft, .slice A3 ws.length cap3] 34)).alloc (.cells #[.slice none 0 0] 60)) := (Turn.refl _ _).alloc _
    have t4 : Turn No (((w.alloc (.cells #[.slice A R.length cap] 60)).alloc (.cells #[.int .u8 kind, .string k, .string v, .string o, .bool had, .bool aft, .slice A3 ws.length cap3] 34)).alloc (.cells #[.slice none 0 0] 60)) ((((w.alloc (.cells #[.slice A R.length cap] 60)).alloc (.cells #[.int .u8 kind, .string k, .string v, .string o, .bool had, .bool aft, .slice A3 ws.length cap3] 34)).alloc (.cells #[.slice none 0 0] 60)).alloc (.cells #[.int .i64 0, .bool false, .string ⟨#[]⟩, .string ⟨#[]⟩] 38)) := (Turn.refl _ _).alloc _
    refine ⟨((t1.trans t2).trans t3).trans t4, (((At.new _ _).no t2).no t3).no t4, ((At.new2 _ _ _).no t3).no t4, ?_, ?_, own_grown hR (((t1.trans t2).trans t3).trans t4) (fun _ _ h => h), fun k hk => Or.inl hk, by omega, by omega, by omega, by omega, rfl, hZ⟩
    · exact (by simpa using At.new ((w.alloc (.cells #[.slice A R.length cap] 60)).alloc (.cells #[.int .u8 kind, .string k, .string v, .string o, .bool had, .bool aft, .slice A3 ws.length cap3] 34)) (.cells #[.slice none 0 0] 60) : At (((w.alloc (.cells #[.slice A R.length cap] 60)).alloc (.cells #[.int .u8 kind, .string k, .string v, .string o, .bool had, .bool aft, .slice A3 ws.length cap3] 34)).alloc (.cells #[.slice none 0 0] 60)) (w.heap.size + 2) (.cells #[.slice none 0 0] 60 (0, 0))).no t4
    · simpa using At.new (((w.alloc (.cells #[.slice A R.length cap] 60)).alloc (.cells #[.int .u8 kind, .string k, .string v, .string o, .bool had, .bool aft, .slice A3 ws.length cap3] 34)).alloc (.cells #[.slice none 0 0] 60)) (.cells #[.int .i64 0, .bool false, .string ⟨#[]⟩, .string ⟨#[]⟩] 38))
  have CR := Lib.hid fun (W : World) (t : Turn No w W) => rrefused_any kind k v o had aft A3 cap3 ws W (hrow.no t) hf.1 hf.2.1 hf.2.2 hfw (by omega)
  have CG := Lib.hid fun (W : World) (t : Turn No w W) => rget_any R A cap k W ((row_of_own hR).no t) (by omega)
  rw [hs.get] at CG
  have HIN := Lib.hid (And.intro hR (And.intro hl (And.intro hfit (And.intro hs (And.intro ha (And.intro hrow (And.intro hf hfw)))))))
  have hwn : ws.length ≤ 40000 := by omega
  clear hZ hR hl hfit hs ha hrow hf hfw
  have HQ := Lib.hid hq
  clear hq
  obtain ⟨ev, hev⟩ : ∃ e, refO kind k v o had ws = e := ⟨_, rfl⟩
  rw [hev] at CR
  go_enter Try.func36, Try.ntmps36
  go_upto_region 1 with fail
  generalize ((((w.alloc (.cells #[.slice A R.length cap] 60)).alloc (.cells #[.int .u8 kind, .string k, .string v, .string o, .bool had, .bool aft, .slice A3 ws.length cap3] 34)).alloc (.cells #[.slice none 0 0] 60)).alloc (.cells #[.int .i64 0, .bool false, .string ⟨#[]⟩, .string ⟨#[]⟩] 38)) = w1 at HS ⊢
  obtain ⟨g2, hg2⟩ : ∃ g, w.heap.size = g := ⟨_, rfl⟩
  rw [hg2] at HS ⊢
  clear hg2
  obtain ⟨g3, hg3⟩ : ∃ g, g2 + 1 = g := ⟨_, rfl⟩
  obtain ⟨g4, hg4⟩ : ∃ g, g2 + 2 = g := ⟨_, rfl⟩
  obtain ⟨g5, hg5⟩ : ∃ g, g2 + 3 = g := ⟨_, rfl⟩
  rw [hg3, hg4, hg5] at HS
  (try rw [hg3]); (try rw [hg4]); (try rw [hg5]); (try rw [show g2 + 1 + 1 = g4 from hg4]); (try rw [show g2 + 1 + 1 + 1 = g5 from hg5]); (try rw [show g3 + 1 = g4 by omega]); (try rw [show g4 + 1 = g5 by omega]); (try rw [show g3 + 1 + 1 = g5 by omega])
  clear hg3 hg4 hg5
  have y0 := HS.out.bo.cell 0
  have y1 := HS.out.bo.cell 1
  have y2 := HS.out.bo.cell 2
  have y3 := HS.out.bo.cell 3
  have y4 := HS.out.bo.cell 4
  have y5 := HS.out.bo.cell 5
  have y6 := HS.out.bo.cell 6
  have z0 := HS.out.bm.cell 0
  have zf := HS.out.bm.thawed 0
  have q0 := HS.out.r4.cell 0
  have qf := HS.out.r4.thawed 0
  have d0 := HS.out.r5.cell 0
  have f0 := HS.out.r5.thawed 0
  have d1 := HS.out.r5.cell 1
  have f1 := HS.out.r5.thawed 1
  have d2 := HS.out.r5.cell 2
  have f2 := HS.out.r5.thawed 2
  have d3 := HS.out.r5.cell 3
  have f3 := HS.out.r5.thawed 3
  simp at y0 y1 y2 y3 y4 y5 y6 z0 q0 d0 d1 d2 d3

  go_upto_region 2 with (go_at_call 75; refine (CR.out _ HS.out.tu).mono ?_; rintro e w3 ⟨rfl, ht⟩; have H3 := Lib.hid (HS.out.no ht); clear ht)
  clear CR HS y0 y1 y2 y3 y4 y5 y6 z0 zf q0 qf d0 d1 d2 d3 f0 f1 f2 f3
  by_cases he : ev = 0
  · have HE : Hid (refO kind k v o had ws = 0) := Lib.hid (hev.trans he)
    subst he
    clear hev
    have y0 := H3.out.bo.cell 0
    have y1 := H3.out.bo.cell 1
    have y2 := H3.out.bo.cell 2
    have y3 := H3.out.bo.cell 3
    have y4 := H3.out.bo.cell 4
    have y5 := H3.out.bo.cell 5
    have y6 := H3.out.bo.cell 6
    have z0 := H3.out.bm.cell 0
    have zf := H3.out.bm.thawed 0
    have q0 := H3.out.r4.cell 0
    have qf := H3.out.r4.thawed 0
    have d0 := H3.out.r5.cell 0
    have f0 := H3.out.r5.thawed 0
    have d1 := H3.out.r5.cell 1
    have f1 := H3.out.r5.thawed 1
    have d2 := H3.out.r5.cell 2
    have f2 := H3.out.r5.thawed 2
    have d3 := H3.out.r5.cell 3
    have f3 := H3.out.r5.thawed 3
    simp at y0 y1 y2 y3 y4 y5 y6 z0 q0 d0 d1 d2 d3

    have CGA := Lib.hid (CG.out w3 H3.out.tu)
    obtain ⟨fo, hfo⟩ : ∃ b, (getL M k).isSome = b := ⟨_, rfl⟩
    obtain ⟨vo, hvo⟩ : ∃ b, (getL M k).getD ⟨#[]⟩ = b := ⟨_, rfl⟩
    rw [hfo, hvo] at CGA
    have HGA : Hid (gans (getL M k) = ⟨0, fo, ⟨#[]⟩, vo⟩ ∧ (getL M k).isSome = fo ∧ (getL M k).getD ⟨#[]⟩ = vo) := Lib.hid ⟨by unfold gans; rw [hfo, hvo], hfo, hvo⟩
    clear hfo hvo CG
    go_upto_region 6 with (go_at_call 76; refine CGA.out.mono ?_; rintro e w4 ⟨rfl, ht⟩; have H4 := Lib.hid (H3.out.no ht); clear ht)
    have tn : Turn No w4 (w4.alloc (.cells #[.int .i64 0, .bool fo, .string ⟨#[]⟩, .string vo] 38)) := (Turn.refl _ _).alloc _
    have HV : Hid (Dr Z w (w4.alloc (.cells #[.int .i64 0, .bool fo, .string ⟨#[]⟩, .string vo] 38)) g2 g3 g4 g5 #[.int .u8 kind, .string k, .string v, .string o, .bool had, .bool aft, .slice A3 ws.length cap3] (.slice A R.length cap) R R.length A cap ∧ At (w4.alloc (.cells #[.int .i64 0, .bool fo, .string ⟨#[]⟩, .string vo] 38)) w4.heap.size (.cells #[.int .i64 0, .bool fo, .string ⟨#[]⟩, .string vo] 38 (0, 0)) ∧ g5 < w4.heap.size) := Lib.hid ⟨H4.out.no tn, At.new _ _, H4.out.r5.lt⟩
    clear H3 H4 CGA tn y0 y1 y2 y3 y4 y5 y6 z0 zf q0 qf d0 d1 d2 d3 f0 f1 f2 f3
    generalize w4.alloc (.cells #[.int .i64 0, .bool fo, .string ⟨#[]⟩, .string vo] 38) = w5 at HV ⊢
    generalize w4.heap.size = g9 at HV ⊢
    have HS := Lib.hid HV.out.1
    have H9 := Lib.hid HV.out.2.1
    have m92 : ¬ g9 = g2 := by have a1 := HV.out.2.2; have a2 := HS.out.l3; have a3 := HS.out.l4; have a4 := HS.out.l5; omega
    have m94 : ¬ g9 = g4 := by have a1 := HV.out.2.2; have a2 := HS.out.l3; have a3 := HS.out.l4; have a4 := HS.out.l5; omega
    have m49 : ¬ g4 = g9 := by omega
    have m29 : ¬ g2 = g9 := by omega
    have m45 : ¬ g4 = g5 := by have a4 := HS.out.l5; omega
    have m54 : ¬ g5 = g4 := by omega
    have m24 : ¬ g2 = g4 := by have a2 := HS.out.l3; have a3 := HS.out.l4; omega
    have m42 : ¬ g4 = g2 := by omega
    have m25 : ¬ g2 = g5 := by have a2 := HS.out.l3; have a3 := HS.out.l4; have a4 := HS.out.l5; omega
    have m52 : ¬ g5 = g2 := by omega
    have m95 : ¬ g9 = g5 := by have a1 := HV.out.2.2; omega
    have m59 : ¬ g5 = g9 := by omega
    have m39 : ¬ g3 = g9 := by have a1 := HV.out.2.2; have a3 := HS.out.l4; have a4 := HS.out.l5; omega
    have m34 : ¬ g3 = g4 := by have a3 := HS.out.l4; omega
    have m35 : ¬ g3 = g5 := by have a3 := HS.out.l4; have a4 := HS.out.l5; omega
    have m32 : ¬ g3 = g2 := by have a2 := HS.out.l3; omega
    have HG59 := Lib.hid (Nat.le_of_lt HV.out.2.2)
    clear HV
    have q2 := HQ.out
    subst q2
    have y0 := HS.out.bo.cell 0
    have y1 := HS.out.bo.cell 1
    have y2 := HS.out.bo.cell 2
    have y3 := HS.out.bo.cell 3
    have y4 := HS.out.bo.cell 4
    have y5 := HS.out.bo.cell 5
    have y6 := HS.out.bo.cell 6
    have z0 := HS.out.bm.cell 0
    have zf := HS.out.bm.thawed 0
    have q0 := HS.out.r4.cell 0
    have qf := HS.out.r4.thawed 0
    have d0 := HS.out.r5.cell 0
    have f0 := HS.out.r5.thawed 0
    have d1 := HS.out.r5.cell 1
    have f1 := HS.out.r5.thawed 1
    have d2 := HS.out.r5.cell 2
    have f2 := HS.out.r5.thawed 2
    have d3 := HS.out.r5.cell 3
    have f3 := HS.out.r5.thawed 3
    simp at y0 y1 y2 y3 y4 y5 y6 z0 q0 d0 d1 d2 d3
    have e0 := H9.out.cell 0
    have e1 := H9.out.cell 1
    have e2 := H9.out.cell 2
    have e3 := H9.out.cell 3
    have h0 := H9.out.thawed 0
    have h1 := H9.out.thawed 1
    have h2 := H9.out.thawed 2
    have h3 := H9.out.thawed 3
    simp at e0 e1 e2 e3
    have HD := Lib.hid (HS.out.no ((Turn.refl No w5).drew))
    have H9d := Lib.hid (H9.out.no ((Turn.refl No w5).drew))
    have CC := Lib.hid (with_any R A cap k v w5.drew ((row_of_own HD.out.row)) (by have := HIN.out.2.1; omega))
    obtain ⟨R2, hR2⟩ : ∃ x, withL R k v = x := ⟨_, rfl⟩
    have HR2 := Lib.hid hR2
    rw [hR2] at CC
    clear hR2
    go_wp2_with fail
    go_region_law (first | (go_simp; go_at_call 72; (with_reducible refine CC.out.mono ?_); rintro e w6 ⟨B2, c2, rfl, ho, ht⟩; have HS6 := Lib.hid (HD.out.no ht); have HN6 := Lib.hid (HD.out.news ht ho); have H96 := Lib.hid (H9d.out.no ht); clear ho ht; have y0 := HS6.out.bo.cell 0; have y1 := HS6.out.bo.cell 1; have y2 := HS6.out.bo.cell 2; have y3 := HS6.out.bo.cell 3; have y4 := HS6.out.bo.cell 4; have y5 := HS6.out.bo.cell 5; have y6 := HS6.out.bo.cell 6; have z0 := HS6.out.bm.cell 0; have zf := HS6.out.bm.thawed 0; have q0 := HS6.out.r4.cell 0; have qf := HS6.out.r4.thawed 0; have d0 := HS6.out.r5.cell 0; have f0 := HS6.out.r5.thawed 0; have d1 := HS6.out.r5.cell 1; have f1 := HS6.out.r5.thawed 1; have d2 := HS6.out.r5.cell 2; have f2 := HS6.out.r5.thawed 2; have d3 := HS6.out.r5.cell 3; have f3 := HS6.out.r5.thawed 3; simp at y0 y1 y2 y3 y4 y5 y6 z0 q0 d0 d1 d2 d3; have e0 := H96.out.cell 0; have e1 := H96.out.cell 1; have e2 := H96.out.cell 2; have e3 := H96.out.cell 3; have h0 := H96.out.thawed 0; have h1 := H96.out.thawed 1; have h2 := H96.out.thawed 2; have h3 := H96.out.thawed 3; simp at e0 e1 e2 e3))
    all_goals go_wp2_with fail
    all_goals (try simp only [Exit.inBlock, Exit.then])
    all_goals first
      | (refine bodyPost_ret (results_cells2 rfl _ _ g4 g5 60 38 _ _ (0, 0) (0, 0) _ _ (by rfl) (by rfl) (HS6.out.finA (HN6.out.1) (HN6.out.2) (rfl) ⟨0, fo, ⟨#[]⟩, vo⟩).a4 (HS6.out.finA (HN6.out.1) (HN6.out.2) (rfl) ⟨0, fo, ⟨#[]⟩, vo⟩).a5 Try.underlying60 (by kernel_rfl) Try.underlying38 (by kernel_rfl)) rfl ?_; exact (HS6.out.finA (HN6.out.1) (HN6.out.2) (rfl) ⟨0, fo, ⟨#[]⟩, vo⟩).rdo (by rw [← HLD.out.1, ← HR2.out]; simp [doR, HE.out]) (by rw [← HLD.out.2]; simp [doA, HE.out, HGA.out.1]))
      | (refine bodyPost_ret (results_cells2 rfl _ _ g4 g5 60 38 _ _ (0, 0) (0, 0) _ _ (by rfl) (by rfl) (HS6.out.finB (HN6.out.1) (HN6.out.2) (rfl) ⟨0, fo, ⟨#[]⟩, vo⟩).a4 (HS6.out.finB (HN6.out.1) (HN6.out.2) (rfl) ⟨0, fo, ⟨#[]⟩, vo⟩).a5 Try.underlying60 (by kernel_rfl) Try.underlying38 (by kernel_rfl)) rfl ?_; exact (HS6.out.finB (HN6.out.1) (HN6.out.2) (rfl) ⟨0, fo, ⟨#[]⟩, vo⟩).rdo (by rw [← HLD.out.1, ← HR2.out]; simp [doR, HE.out]) (by rw [← HLD.out.2]; simp [doA, HE.out, HGA.out.1]))
  · have HE : Hid (refO kind k v o had ws = ev ∧ ev ≠ 0) := Lib.hid ⟨hev, he⟩
    have hq : (ev == 0) = false := by simpa using he
    have m45 : ¬ g4 = g5 := by have a4 := H3.out.l5; omega
    have m54 : ¬ g5 = g4 := by omega
    have hq2 : (ev != 0) = true := by simpa using he
    have y0 := H3.out.bo.cell 0
    have y1 := H3.out.bo.cell 1
    have y2 := H3.out.bo.cell 2
    have y3 := H3.out.bo.cell 3
    have y4 := H3.out.bo.cell 4
    have y5 := H3.out.bo.cell 5
    have y6 := H3.out.bo.cell 6
    have z0 := H3.out.bm.cell 0
    have zf := H3.out.bm.thawed 0
    have q0 := H3.out.r4.cell 0
    have qf := H3.out.r4.thawed 0
    have d0 := H3.out.r5.cell 0
    have f0 := H3.out.r5.thawed 0
    have d1 := H3.out.r5.cell 1
    have f1 := H3.out.r5.thawed 1
    have d2 := H3.out.r5.cell 2
    have f2 := H3.out.r5.thawed 2
    have d3 := H3.out.r5.cell 3
    have f3 := H3.out.r5.thawed 3
    simp at y0 y1 y2 y3 y4 y5 y6 z0 q0 d0 d1 d2 d3

    go_wp2_with fail
    all_goals (try simp only [Exit.inBlock, Exit.then])
    all_goals first
      | (refine bodyPost_ret (results_cells2 rfl _ _ g4 g5 60 38 _ _ (0, 0) (0, 0) _ _ (by rfl) (by rfl) (H3.out.finA (H3.out.row) (H3.out.old) (rfl) ⟨ev, false, ⟨#[]⟩, ⟨#[]⟩⟩).a4 (H3.out.finA (H3.out.row) (H3.out.old) (rfl) ⟨ev, false, ⟨#[]⟩, ⟨#[]⟩⟩).a5 Try.underlying60 (by kernel_rfl) Try.underlying38 (by kernel_rfl)) rfl ?_; exact (H3.out.finA (H3.out.row) (H3.out.old) (rfl) ⟨ev, false, ⟨#[]⟩, ⟨#[]⟩⟩).rdo (by rw [← HLD.out.1, doR.eq_1, if_neg (by rw [HE.out.1]; exact HE.out.2)]) (by rw [← HLD.out.2, doA.eq_1, if_neg (by rw [HE.out.1]; exact HE.out.2), HE.out.1]))
      | (refine bodyPost_ret (results_cells2 rfl _ _ g4 g5 60 38 _ _ (0, 0) (0, 0) _ _ (by rfl) (by rfl) (H3.out.finB (H3.out.row) (H3.out.old) (rfl) ⟨ev, false, ⟨#[]⟩, ⟨#[]⟩⟩).a4 (H3.out.finB (H3.out.row) (H3.out.old) (rfl) ⟨ev, false, ⟨#[]⟩, ⟨#[]⟩⟩).a5 Try.underlying60 (by kernel_rfl) Try.underlying38 (by kernel_rfl)) rfl ?_; exact (H3.out.finB (H3.out.row) (H3.out.old) (rfl) ⟨ev, false, ⟨#[]⟩, ⟨#[]⟩⟩).rdo (by rw [← HLD.out.1, doR.eq_1, if_neg (by rw [HE.out.1]; exact HE.out.2)]) (by rw [← HLD.out.2, doA.eq_1, if_neg (by rw [HE.out.1]; exact HE.out.2), HE.out.1]))

set_option maxRecDepth 100000 in
set_option maxHeartbeats 16000000 in
theorem rdo_3 (R M : List Pr) (A : Option Addr) (cap : Nat) (kind : Int) (k v o : ByteArray) (had aft : Bool) (A3 : Option Addr) (cap3 : Nat) (ws : List Wr) (w : World) {Z : Nat} (hZ : Z ≤ w.heap.size) (hR : w.ownsRow Z 47 2 (.slice A R.length cap) R.length (pcs R)) (hl : R.length + ws.length ≤ 40000)
    (hfit : ∀ p ∈ R, Fit p.k ∧ Fit p.v) (hs : Sim R M) (ha : Asc M) (hrow : Row w A3 (wcs ws)) (hf : Fit k ∧ Fit v ∧ Fit o) (hfw : ∀ x ∈ ws, Fit x.k ∧ Fit x.v) (hq : kind = 3) :
    Calls Try.prog 36 #[.agg #[.slice A R.length cap], .agg #[.int .u8 kind, .string k, .string v, .string o, .bool had, .bool aft, .slice A3 ws.length cap3]] w (RDo Z w (.slice A R.length cap) (doR R kind k v o had aft ws) (doA M kind k v o had aft ws)) := by
  obtain ⟨DA, hDA⟩ : ∃ a, doA M kind k v o had aft ws = a := ⟨_, rfl⟩
  obtain ⟨DR, hDR⟩ : ∃ a, doR R kind k v o had aft ws = a := ⟨_, rfl⟩
  have HLD := Lib.hid (And.intro hDR hDA)
  rw [hDA, hDR]
  clear hDA hDR
  have HS : Hid (Dr Z w ((((w.alloc (.cells #[.slice A R.length cap] 60)).alloc (.cells #[.int .u8 kind, .string k, .string v, .string o, .bool had, .bool aft, .slice A3 ws.length cap3] 34)).alloc (.cells #[.slice none 0 0] 60)).alloc (.cells #[.int .i64 0, .bool false, .string ⟨#[]⟩, .string ⟨#[]⟩] 38)) w.heap.size (w.heap.size + 1) (w.heap.size + 2) (w.heap.size + 3) #[.int .u8 kind, .string k, .string v, .string o, .bool had, .bool aft, .slice A3 ws.length cap3] (.slice A R.length cap) R R.length A cap) := Lib.hid (by
    have t1 : Turn No w (w.alloc (.cells #[.slice A R.length cap] 60)) := (Turn.refl _ _).alloc _
    have t2 : Turn No (w.alloc (.cells #[.slice A R.length cap] 60)) ((w.alloc (.cells #[.slice A R.length cap] 60)).alloc (.cells #[.int .u8 kind, .string k, .string v, .string o, .bool had, .bool aft, .slice A3 ws.length cap3] 34)) := (Turn.refl _ _).alloc _
    have t3 : Turn No ((w.alloc (.cells #[.slice A R.length cap] 60)).alloc (.cells #[.int .u8 kind, .string k, .string v, .string o, .bool had, .bool aft, .slice A3 ws.length cap3] 34)) (((w.alloc (.cells #[.slice A R.length cap] 60)).alloc (.cells #[.int .u8 kind, .string k, .string v, .string o, .bool had, .bool aft, .slice A3 ws.length cap3] 34)).alloc (.cells #[.slice none 0 0] 60)) := (Turn.refl _ _).alloc _
    have t4 : Turn No (((w.alloc (.cells #[.slice A R.length cap] 60)).alloc (.cells #[.int .u8 kind, .string k, .string v, .string o, .bool had, .bool aft, .slice A3 ws.length cap3] 34)).alloc (.cells #[.slice none 0 0] 60)) ((((w.alloc (.cells #[.slice A R.length cap] 60)).alloc (.cells #[.int .u8 kind, .string k, .string v, .string o, .bool had, .bool aft, .slice A3 ws.length cap3] 34)).alloc (.cells #[.slice none 0 0] 60)).alloc (.cells #[.int .i64 0, .bool false, .string ⟨#[]⟩, .string ⟨#[]⟩] 38)) := (Turn.refl _ _).alloc _
    refine ⟨((t1.trans t2).trans t3).trans t4, (((At.new _ _).no t2).no t3).no t4, ((At.new2 _ _ _).no t3).no t4, ?_, ?_, own_grown hR (((t1.trans t2).trans t3).trans t4) (fun _ _ h => h), fun k hk => Or.inl hk, by omega, by omega, by omega, by omega, rfl, hZ⟩
    · exact (by simpa using At.new ((w.alloc (.cells #[.slice A R.length cap] 60)).alloc (.cells #[.int .u8 kind, .string k, .string v, .string o, .bool had, .bool aft, .slice A3 ws.length cap3] 34)) (.cells #[.slice none 0 0] 60) : At (((w.alloc (.cells #[.slice A R.length cap] 60)).alloc (.cells #[.int .u8 kind, .string k, .string v, .string o, .bool had, .bool aft, .slice A3 ws.length cap3] 34)).alloc (.cells #[.slice none 0 0] 60)) (w.heap.size + 2) (.cells #[.slice none 0 0] 60 (0, 0))).no t4
    · simpa using At.new (((w.alloc (.cells #[.slice A R.length cap] 60)).alloc (.cells #[.int .u8 kind, .string k, .string v, .string o, .bool had, .bool aft, .slice A3 ws.length cap3] 34)).alloc (.cells #[.slice none 0 0] 60)) (.cells #[.int .i64 0, .bool false, .string ⟨#[]⟩, .string ⟨#[]⟩] 38))
  have CR := Lib.hid fun (W : World) (t : Turn No w W) => rrefused_any kind k v o had aft A3 cap3 ws W (hrow.no t) hf.1 hf.2.1 hf.2.2 hfw (by omega)
  have CG := Lib.hid fun (W : World) (t : Turn No w W) => rget_any R A cap k W ((row_of_own hR).no t) (by omega)
  rw [hs.get] at CG
  have HIN := Lib.hid (And.intro hR (And.intro hl (And.intro hfit (And.intro hs (And.intro ha (And.intro hrow (And.intro hf hfw)))))))
  have hwn : ws.length ≤ 40000 := by omega
  clear hZ hR hl hfit hs ha hrow hf hfw
  have HQ := Lib.hid hq
  clear hq
  obtain ⟨ev, hev⟩ : ∃ e, refO kind k v o had ws = e := ⟨_, rfl⟩
  rw [hev] at CR
  go_enter Try.func36, Try.ntmps36
  go_upto_region 1 with fail
  generalize ((((w.alloc (.cells #[.slice A R.length cap] 60)).alloc (.cells #[.int .u8 kind, .string k, .string v, .string o, .bool had, .bool aft, .slice A3 ws.length cap3] 34)).alloc (.cells #[.slice none 0 0] 60)).alloc (.cells #[.int .i64 0, .bool false, .string ⟨#[]⟩, .string ⟨#[]⟩] 38)) = w1 at HS ⊢
  obtain ⟨g2, hg2⟩ : ∃ g, w.heap.size = g := ⟨_, rfl⟩
  rw [hg2] at HS ⊢
  clear hg2
  obtain ⟨g3, hg3⟩ : ∃ g, g2 + 1 = g := ⟨_, rfl⟩
  obtain ⟨g4, hg4⟩ : ∃ g, g2 + 2 = g := ⟨_, rfl⟩
  obtain ⟨g5, hg5⟩ : ∃ g, g2 + 3 = g := ⟨_, rfl⟩
  rw [hg3, hg4, hg5] at HS
  (try rw [hg3]); (try rw [hg4]); (try rw [hg5]); (try rw [show g2 + 1 + 1 = g4 from hg4]); (try rw [show g2 + 1 + 1 + 1 = g5 from hg5]); (try rw [show g3 + 1 = g4 by omega]); (try rw [show g4 + 1 = g5 by omega]); (try rw [show g3 + 1 + 1 = g5 by omega])
  clear hg3 hg4 hg5
  have y0 := HS.out.bo.cell 0
  have y1 := HS.out.bo.cell 1
  have y2 := HS.out.bo.cell 2
  have y3 := HS.out.bo.cell 3
  have y4 := HS.out.bo.cell 4
  have y5 := HS.out.bo.cell 5
  have y6 := HS.out.bo.cell 6
  have z0 := HS.out.bm.cell 0
  have zf := HS.out.bm.thawed 0
  have q0 := HS.out.r4.cell 0
  have qf := HS.out.r4.thawed 0
  have d0 := HS.out.r5.cell 0
  have f0 := HS.out.r5.thawed 0
  have d1 := HS.out.r5.cell 1
  have f1 := HS.out.r5.thawed 1
  have d2 := HS.out.r5.cell 2
  have f2 := HS.out.r5.thawed 2
  have d3 := HS.out.r5.cell 3
  have f3 := HS.out.r5.thawed 3
  simp at y0 y1 y2 y3 y4 y5 y6 z0 q0 d0 d1 d2 d3

  go_upto_region 2 with (go_at_call 75; refine (CR.out _ HS.out.tu).mono ?_; rintro e w3 ⟨rfl, ht⟩; have H3 := Lib.hid (HS.out.no ht); clear ht)
  clear CR HS y0 y1 y2 y3 y4 y5 y6 z0 zf q0 qf d0 d1 d2 d3 f0 f1 f2 f3
  by_cases he : ev = 0
  · have HE : Hid (refO kind k v o had ws = 0) := Lib.hid (hev.trans he)
    subst he
    clear hev
    have y0 := H3.out.bo.cell 0
    have y1 := H3.out.bo.cell 1
    have y2 := H3.out.bo.cell 2
    have y3 := H3.out.bo.cell 3
    have y4 := H3.out.bo.cell 4
    have y5 := H3.out.bo.cell 5
    have y6 := H3.out.bo.cell 6
    have z0 := H3.out.bm.cell 0
    have zf := H3.out.bm.thawed 0
    have q0 := H3.out.r4.cell 0
    have qf := H3.out.r4.thawed 0
    have d0 := H3.out.r5.cell 0
    have f0 := H3.out.r5.thawed 0
    have d1 := H3.out.r5.cell 1
    have f1 := H3.out.r5.thawed 1
    have d2 := H3.out.r5.cell 2
    have f2 := H3.out.r5.thawed 2
    have d3 := H3.out.r5.cell 3
    have f3 := H3.out.r5.thawed 3
    simp at y0 y1 y2 y3 y4 y5 y6 z0 q0 d0 d1 d2 d3

    have CGA := Lib.hid (CG.out w3 H3.out.tu)
    obtain ⟨fo, hfo⟩ : ∃ b, (getL M k).isSome = b := ⟨_, rfl⟩
    obtain ⟨vo, hvo⟩ : ∃ b, (getL M k).getD ⟨#[]⟩ = b := ⟨_, rfl⟩
    rw [hfo, hvo] at CGA
    have HGA : Hid (gans (getL M k) = ⟨0, fo, ⟨#[]⟩, vo⟩ ∧ (getL M k).isSome = fo ∧ (getL M k).getD ⟨#[]⟩ = vo) := Lib.hid ⟨by unfold gans; rw [hfo, hvo], hfo, hvo⟩
    clear hfo hvo CG
    go_upto_region 6 with (go_at_call 76; refine CGA.out.mono ?_; rintro e w4 ⟨rfl, ht⟩; have H4 := Lib.hid (H3.out.no ht); clear ht)
    have tn : Turn No w4 (w4.alloc (.cells #[.int .i64 0, .bool fo, .string ⟨#[]⟩, .string vo] 38)) := (Turn.refl _ _).alloc _
    have HV : Hid (Dr Z w (w4.alloc (.cells #[.int .i64 0, .bool fo, .string ⟨#[]⟩, .string vo] 38)) g2 g3 g4 g5 #[.int .u8 kind, .string k, .string v, .string o, .bool had, .bool aft, .slice A3 ws.length cap3] (.slice A R.length cap) R R.length A cap ∧ At (w4.alloc (.cells #[.int .i64 0, .bool fo, .string ⟨#[]⟩, .string vo] 38)) w4.heap.size (.cells #[.int .i64 0, .bool fo, .string ⟨#[]⟩, .string vo] 38 (0, 0)) ∧ g5 < w4.heap.size) := Lib.hid ⟨H4.out.no tn, At.new _ _, H4.out.r5.lt⟩
    clear H3 H4 CGA tn y0 y1 y2 y3 y4 y5 y6 z0 zf q0 qf d0 d1 d2 d3 f0 f1 f2 f3
    generalize w4.alloc (.cells #[.int .i64 0, .bool fo, .string ⟨#[]⟩, .string vo] 38) = w5 at HV ⊢
    generalize w4.heap.size = g9 at HV ⊢
    have HS := Lib.hid HV.out.1
    have H9 := Lib.hid HV.out.2.1
    have m92 : ¬ g9 = g2 := by have a1 := HV.out.2.2; have a2 := HS.out.l3; have a3 := HS.out.l4; have a4 := HS.out.l5; omega
    have m94 : ¬ g9 = g4 := by have a1 := HV.out.2.2; have a2 := HS.out.l3; have a3 := HS.out.l4; have a4 := HS.out.l5; omega
    have m49 : ¬ g4 = g9 := by omega
    have m29 : ¬ g2 = g9 := by omega
    have m45 : ¬ g4 = g5 := by have a4 := HS.out.l5; omega
    have m54 : ¬ g5 = g4 := by omega
    have m24 : ¬ g2 = g4 := by have a2 := HS.out.l3; have a3 := HS.out.l4; omega
    have m42 : ¬ g4 = g2 := by omega
    have m25 : ¬ g2 = g5 := by have a2 := HS.out.l3; have a3 := HS.out.l4; have a4 := HS.out.l5; omega
    have m52 : ¬ g5 = g2 := by omega
    have m95 : ¬ g9 = g5 := by have a1 := HV.out.2.2; omega
    have m59 : ¬ g5 = g9 := by omega
    have m39 : ¬ g3 = g9 := by have a1 := HV.out.2.2; have a3 := HS.out.l4; have a4 := HS.out.l5; omega
    have m34 : ¬ g3 = g4 := by have a3 := HS.out.l4; omega
    have m35 : ¬ g3 = g5 := by have a3 := HS.out.l4; have a4 := HS.out.l5; omega
    have m32 : ¬ g3 = g2 := by have a2 := HS.out.l3; omega
    have HG59 := Lib.hid (Nat.le_of_lt HV.out.2.2)
    clear HV
    have q3 := HQ.out
    subst q3
    have y0 := HS.out.bo.cell 0
    have y1 := HS.out.bo.cell 1
    have y2 := HS.out.bo.cell 2
    have y3 := HS.out.bo.cell 3
    have y4 := HS.out.bo.cell 4
    have y5 := HS.out.bo.cell 5
    have y6 := HS.out.bo.cell 6
    have z0 := HS.out.bm.cell 0
    have zf := HS.out.bm.thawed 0
    have q0 := HS.out.r4.cell 0
    have qf := HS.out.r4.thawed 0
    have d0 := HS.out.r5.cell 0
    have f0 := HS.out.r5.thawed 0
    have d1 := HS.out.r5.cell 1
    have f1 := HS.out.r5.thawed 1
    have d2 := HS.out.r5.cell 2
    have f2 := HS.out.r5.thawed 2
    have d3 := HS.out.r5.cell 3
    have f3 := HS.out.r5.thawed 3
    simp at y0 y1 y2 y3 y4 y5 y6 z0 q0 d0 d1 d2 d3
    have e0 := H9.out.cell 0
    have e1 := H9.out.cell 1
    have e2 := H9.out.cell 2
    have e3 := H9.out.cell 3
    have h0 := H9.out.thawed 0
    have h1 := H9.out.thawed 1
    have h2 := H9.out.thawed 2
    have h3 := H9.out.thawed 3
    simp at e0 e1 e2 e3
    have HD := Lib.hid (HS.out.no ((Turn.refl No w5).drew))
    have H9d := Lib.hid (H9.out.no ((Turn.refl No w5).drew))
    have CC := Lib.hid (without_any R A cap k w5.drew ((row_of_own HD.out.row)) (by have := HIN.out.2.1; omega))
    obtain ⟨R2, hR2⟩ : ∃ x, delL R k = x := ⟨_, rfl⟩
    have HR2 := Lib.hid hR2
    rw [hR2] at CC
    clear hR2
    go_wp2_with fail
    go_region_law (first | (go_simp; go_at_call 77; (with_reducible refine CC.out.mono ?_); rintro e w6 ⟨B2, c2, rfl, ho, ht⟩; have HS6 := Lib.hid (HD.out.no ht); have HN6 := Lib.hid (HD.out.news ht ho); have H96 := Lib.hid (H9d.out.no ht); clear ho ht; have y0 := HS6.out.bo.cell 0; have y1 := HS6.out.bo.cell 1; have y2 := HS6.out.bo.cell 2; have y3 := HS6.out.bo.cell 3; have y4 := HS6.out.bo.cell 4; have y5 := HS6.out.bo.cell 5; have y6 := HS6.out.bo.cell 6; have z0 := HS6.out.bm.cell 0; have zf := HS6.out.bm.thawed 0; have q0 := HS6.out.r4.cell 0; have qf := HS6.out.r4.thawed 0; have d0 := HS6.out.r5.cell 0; have f0 := HS6.out.r5.thawed 0; have d1 := HS6.out.r5.cell 1; have f1 := HS6.out.r5.thawed 1; have d2 := HS6.out.r5.cell 2; have f2 := HS6.out.r5.thawed 2; have d3 := HS6.out.r5.cell 3; have f3 := HS6.out.r5.thawed 3; simp at y0 y1 y2 y3 y4 y5 y6 z0 q0 d0 d1 d2 d3; have e0 := H96.out.cell 0; have e1 := H96.out.cell 1; have e2 := H96.out.cell 2; have e3 := H96.out.cell 3; have h0 := H96.out.thawed 0; have h1 := H96.out.thawed 1; have h2 := H96.out.thawed 2; have h3 := H96.out.thawed 3; simp at e0 e1 e2 e3))
    all_goals go_wp2_with fail
    all_goals (try simp only [Exit.inBlock, Exit.then])
    all_goals first
      | (refine bodyPost_ret (results_cells2 rfl _ _ g4 g5 60 38 _ _ (0, 0) (0, 0) _ _ (by rfl) (by rfl) (HS6.out.finA (HN6.out.1) (HN6.out.2) (rfl) ⟨0, fo, ⟨#[]⟩, vo⟩).a4 (HS6.out.finA (HN6.out.1) (HN6.out.2) (rfl) ⟨0, fo, ⟨#[]⟩, vo⟩).a5 Try.underlying60 (by kernel_rfl) Try.underlying38 (by kernel_rfl)) rfl ?_; exact (HS6.out.finA (HN6.out.1) (HN6.out.2) (rfl) ⟨0, fo, ⟨#[]⟩, vo⟩).rdo (by rw [← HLD.out.1, ← HR2.out]; simp [doR, HE.out]) (by rw [← HLD.out.2]; simp [doA, HE.out, HGA.out.1]))
      | (refine bodyPost_ret (results_cells2 rfl _ _ g4 g5 60 38 _ _ (0, 0) (0, 0) _ _ (by rfl) (by rfl) (HS6.out.finB (HN6.out.1) (HN6.out.2) (rfl) ⟨0, fo, ⟨#[]⟩, vo⟩).a4 (HS6.out.finB (HN6.out.1) (HN6.out.2) (rfl) ⟨0, fo, ⟨#[]⟩, vo⟩).a5 Try.underlying60 (by kernel_rfl) Try.underlying38 (by kernel_rfl)) rfl ?_; exact (HS6.out.finB (HN6.out.1) (HN6.out.2) (rfl) ⟨0, fo, ⟨#[]⟩, vo⟩).rdo (by rw [← HLD.out.1, ← HR2.out]; simp [doR, HE.out]) (by rw [← HLD.out.2]; simp [doA, HE.out, HGA.out.1]))
  · have HE : Hid (refO kind k v o had ws = ev ∧ ev ≠ 0) := Lib.hid ⟨hev, he⟩
    have hq : (ev == 0) = false := by simpa using he
    have m45 : ¬ g4 = g5 := by have a4 := H3.out.l5; omega
    have m54 : ¬ g5 = g4 := by omega
    have hq2 : (ev != 0) = true := by simpa using he
    have y0 := H3.out.bo.cell 0
    have y1 := H3.out.bo.cell 1
    have y2 := H3.out.bo.cell 2
    have y3 := H3.out.bo.cell 3
    have y4 := H3.out.bo.cell 4
    have y5 := H3.out.bo.cell 5
    have y6 := H3.out.bo.cell 6
    have z0 := H3.out.bm.cell 0
    have zf := H3.out.bm.thawed 0
    have q0 := H3.out.r4.cell 0
    have qf := H3.out.r4.thawed 0
    have d0 := H3.out.r5.cell 0
    have f0 := H3.out.r5.thawed 0
    have d1 := H3.out.r5.cell 1
    have f1 := H3.out.r5.thawed 1
    have d2 := H3.out.r5.cell 2
    have f2 := H3.out.r5.thawed 2
    have d3 := H3.out.r5.cell 3
    have f3 := H3.out.r5.thawed 3
    simp at y0 y1 y2 y3 y4 y5 y6 z0 q0 d0 d1 d2 d3

    go_wp2_with fail
    all_goals (try simp only [Exit.inBlock, Exit.then])
    all_goals first
      | (refine bodyPost_ret (results_cells2 rfl _ _ g4 g5 60 38 _ _ (0, 0) (0, 0) _ _ (by rfl) (by rfl) (H3.out.finA (H3.out.row) (H3.out.old) (rfl) ⟨ev, false, ⟨#[]⟩, ⟨#[]⟩⟩).a4 (H3.out.finA (H3.out.row) (H3.out.old) (rfl) ⟨ev, false, ⟨#[]⟩, ⟨#[]⟩⟩).a5 Try.underlying60 (by kernel_rfl) Try.underlying38 (by kernel_rfl)) rfl ?_; exact (H3.out.finA (H3.out.row) (H3.out.old) (rfl) ⟨ev, false, ⟨#[]⟩, ⟨#[]⟩⟩).rdo (by rw [← HLD.out.1, doR.eq_1, if_neg (by rw [HE.out.1]; exact HE.out.2)]) (by rw [← HLD.out.2, doA.eq_1, if_neg (by rw [HE.out.1]; exact HE.out.2), HE.out.1]))
      | (refine bodyPost_ret (results_cells2 rfl _ _ g4 g5 60 38 _ _ (0, 0) (0, 0) _ _ (by rfl) (by rfl) (H3.out.finB (H3.out.row) (H3.out.old) (rfl) ⟨ev, false, ⟨#[]⟩, ⟨#[]⟩⟩).a4 (H3.out.finB (H3.out.row) (H3.out.old) (rfl) ⟨ev, false, ⟨#[]⟩, ⟨#[]⟩⟩).a5 Try.underlying60 (by kernel_rfl) Try.underlying38 (by kernel_rfl)) rfl ?_; exact (H3.out.finB (H3.out.row) (H3.out.old) (rfl) ⟨ev, false, ⟨#[]⟩, ⟨#[]⟩⟩).rdo (by rw [← HLD.out.1, doR.eq_1, if_neg (by rw [HE.out.1]; exact HE.out.2)]) (by rw [← HLD.out.2, doA.eq_1, if_neg (by rw [HE.out.1]; exact HE.out.2), HE.out.1]))

set_option maxRecDepth 100000 in
set_option maxHeartbeats 16000000 in
theorem rdo_5 (R M : List Pr) (A : Option Addr) (cap : Nat) (kind : Int) (k v o : ByteArray) (had aft : Bool) (A3 : Option Addr) (cap3 : Nat) (ws : List Wr) (w : World) {Z : Nat} (hZ : Z ≤ w.heap.size) (hR : w.ownsRow Z 47 2 (.slice A R.length cap) R.length (pcs R)) (hl : R.length + ws.length ≤ 40000)
    (hfit : ∀ p ∈ R, Fit p.k ∧ Fit p.v) (hs : Sim R M) (ha : Asc M) (hrow : Row w A3 (wcs ws)) (hf : Fit k ∧ Fit v ∧ Fit o) (hfw : ∀ x ∈ ws, Fit x.k ∧ Fit x.v) (hq : kind = 5) :
    Calls Try.prog 36 #[.agg #[.slice A R.length cap], .agg #[.int .u8 kind, .string k, .string v, .string o, .bool had, .bool aft, .slice A3 ws.length cap3]] w (RDo Z w (.slice A R.length cap) (doR R kind k v o had aft ws) (doA M kind k v o had aft ws)) := by
  obtain ⟨DA, hDA⟩ : ∃ a, doA M kind k v o had aft ws = a := ⟨_, rfl⟩
  obtain ⟨DR, hDR⟩ : ∃ a, doR R kind k v o had aft ws = a := ⟨_, rfl⟩
  have HLD := Lib.hid (And.intro hDR hDA)
  rw [hDA, hDR]
  clear hDA hDR
  have HS : Hid (Dr Z w ((((w.alloc (.cells #[.slice A R.length cap] 60)).alloc (.cells #[.int .u8 kind, .string k, .string v, .string o, .bool had, .bool aft, .slice A3 ws.length cap3] 34)).alloc (.cells #[.slice none 0 0] 60)).alloc (.cells #[.int .i64 0, .bool false, .string ⟨#[]⟩, .string ⟨#[]⟩] 38)) w.heap.size (w.heap.size + 1) (w.heap.size + 2) (w.heap.size + 3) #[.int .u8 kind, .string k, .string v, .string o, .bool had, .bool aft, .slice A3 ws.length cap3] (.slice A R.length cap) R R.length A cap) := Lib.hid (by
    have t1 : Turn No w (w.alloc (.cells #[.slice A R.length cap] 60)) := (Turn.refl _ _).alloc _
    have t2 : Turn No (w.alloc (.cells #[.slice A R.length cap] 60)) ((w.alloc (.cells #[.slice A R.length cap] 60)).alloc (.cells #[.int .u8 kind, .string k, .string v, .string o, .bool had, .bool aft, .slice A3 ws.length cap3] 34)) := (Turn.refl _ _).alloc _
    have t3 : Turn No ((w.alloc (.cells #[.slice A R.length cap] 60)).alloc (.cells #[.int .u8 kind, .string k, .string v, .string o, .bool had, .bool aft, .slice A3 ws.length cap3] 34)) (((w.alloc (.cells #[.slice A R.length cap] 60)).alloc (.cells #[.int .u8 kind, .string k, .string v, .string o, .bool had, .bool aft, .slice A3 ws.length cap3] 34)).alloc (.cells #[.slice none 0 0] 60)) := (Turn.refl _ _).alloc _
    have t4 : Turn No (((w.alloc (.cells #[.slice A R.length cap] 60)).alloc (.cells #[.int .u8 kind, .string k, .string v, .string o, .bool had, .bool aft, .slice A3 ws.length cap3] 34)).alloc (.cells #[.slice none 0 0] 60)) ((((w.alloc (.cells #[.slice A R.length cap] 60)).alloc (.cells #[.int .u8 kind, .string k, .string v, .string o, .bool had, .bool aft, .slice A3 ws.length cap3] 34)).alloc (.cells #[.slice none 0 0] 60)).alloc (.cells #[.int .i64 0, .bool false, .string ⟨#[]⟩, .string ⟨#[]⟩] 38)) := (Turn.refl _ _).alloc _
    refine ⟨((t1.trans t2).trans t3).trans t4, (((At.new _ _).no t2).no t3).no t4, ((At.new2 _ _ _).no t3).no t4, ?_, ?_, own_grown hR (((t1.trans t2).trans t3).trans t4) (fun _ _ h => h), fun k hk => Or.inl hk, by omega, by omega, by omega, by omega, rfl, hZ⟩
    · exact (by simpa using At.new ((w.alloc (.cells #[.slice A R.length cap] 60)).alloc (.cells #[.int .u8 kind, .string k, .string v, .string o, .bool had, .bool aft, .slice A3 ws.length cap3] 34)) (.cells #[.slice none 0 0] 60) : At (((w.alloc (.cells #[.slice A R.length cap] 60)).alloc (.cells #[.int .u8 kind, .string k, .string v, .string o, .bool had, .bool aft, .slice A3 ws.length cap3] 34)).alloc (.cells #[.slice none 0 0] 60)) (w.heap.size + 2) (.cells #[.slice none 0 0] 60 (0, 0))).no t4
    · simpa using At.new (((w.alloc (.cells #[.slice A R.length cap] 60)).alloc (.cells #[.int .u8 kind, .string k, .string v, .string o, .bool had, .bool aft, .slice A3 ws.length cap3] 34)).alloc (.cells #[.slice none 0 0] 60)) (.cells #[.int .i64 0, .bool false, .string ⟨#[]⟩, .string ⟨#[]⟩] 38))
  have CR := Lib.hid fun (W : World) (t : Turn No w W) => rrefused_any kind k v o had aft A3 cap3 ws W (hrow.no t) hf.1 hf.2.1 hf.2.2 hfw (by omega)
  have CG := Lib.hid fun (W : World) (t : Turn No w W) => rget_any R A cap k W ((row_of_own hR).no t) (by omega)
  rw [hs.get] at CG
  have HIN := Lib.hid (And.intro hR (And.intro hl (And.intro hfit (And.intro hs (And.intro ha (And.intro hrow (And.intro hf hfw)))))))
  have hwn : ws.length ≤ 40000 := by omega
  clear hZ hR hl hfit hs ha hrow hf hfw
  have HQ := Lib.hid hq
  clear hq
  obtain ⟨ev, hev⟩ : ∃ e, refO kind k v o had ws = e := ⟨_, rfl⟩
  rw [hev] at CR
  go_enter Try.func36, Try.ntmps36
  go_upto_region 1 with fail
  generalize ((((w.alloc (.cells #[.slice A R.length cap] 60)).alloc (.cells #[.int .u8 kind, .string k, .string v, .string o, .bool had, .bool aft, .slice A3 ws.length cap3] 34)).alloc (.cells #[.slice none 0 0] 60)).alloc (.cells #[.int .i64 0, .bool false, .string ⟨#[]⟩, .string ⟨#[]⟩] 38)) = w1 at HS ⊢
  obtain ⟨g2, hg2⟩ : ∃ g, w.heap.size = g := ⟨_, rfl⟩
  rw [hg2] at HS ⊢
  clear hg2
  obtain ⟨g3, hg3⟩ : ∃ g, g2 + 1 = g := ⟨_, rfl⟩
  obtain ⟨g4, hg4⟩ : ∃ g, g2 + 2 = g := ⟨_, rfl⟩
  obtain ⟨g5, hg5⟩ : ∃ g, g2 + 3 = g := ⟨_, rfl⟩
  rw [hg3, hg4, hg5] at HS
  (try rw [hg3]); (try rw [hg4]); (try rw [hg5]); (try rw [show g2 + 1 + 1 = g4 from hg4]); (try rw [show g2 + 1 + 1 + 1 = g5 from hg5]); (try rw [show g3 + 1 = g4 by omega]); (try rw [show g4 + 1 = g5 by omega]); (try rw [show g3 + 1 + 1 = g5 by omega])
  clear hg3 hg4 hg5
  have y0 := HS.out.bo.cell 0
  have y1 := HS.out.bo.cell 1
  have y2 := HS.out.bo.cell 2
  have y3 := HS.out.bo.cell 3
  have y4 := HS.out.bo.cell 4
  have y5 := HS.out.bo.cell 5
  have y6 := HS.out.bo.cell 6
  have z0 := HS.out.bm.cell 0
  have zf := HS.out.bm.thawed 0
  have q0 := HS.out.r4.cell 0
  have qf := HS.out.r4.thawed 0
  have d0 := HS.out.r5.cell 0
  have f0 := HS.out.r5.thawed 0
  have d1 := HS.out.r5.cell 1
  have f1 := HS.out.r5.thawed 1
  have d2 := HS.out.r5.cell 2
  have f2 := HS.out.r5.thawed 2
  have d3 := HS.out.r5.cell 3
  have f3 := HS.out.r5.thawed 3
  simp at y0 y1 y2 y3 y4 y5 y6 z0 q0 d0 d1 d2 d3

  go_upto_region 2 with (go_at_call 75; refine (CR.out _ HS.out.tu).mono ?_; rintro e w3 ⟨rfl, ht⟩; have H3 := Lib.hid (HS.out.no ht); clear ht)
  clear CR HS y0 y1 y2 y3 y4 y5 y6 z0 zf q0 qf d0 d1 d2 d3 f0 f1 f2 f3
  by_cases he : ev = 0
  · have HE : Hid (refO kind k v o had ws = 0) := Lib.hid (hev.trans he)
    subst he
    clear hev
    have y0 := H3.out.bo.cell 0
    have y1 := H3.out.bo.cell 1
    have y2 := H3.out.bo.cell 2
    have y3 := H3.out.bo.cell 3
    have y4 := H3.out.bo.cell 4
    have y5 := H3.out.bo.cell 5
    have y6 := H3.out.bo.cell 6
    have z0 := H3.out.bm.cell 0
    have zf := H3.out.bm.thawed 0
    have q0 := H3.out.r4.cell 0
    have qf := H3.out.r4.thawed 0
    have d0 := H3.out.r5.cell 0
    have f0 := H3.out.r5.thawed 0
    have d1 := H3.out.r5.cell 1
    have f1 := H3.out.r5.thawed 1
    have d2 := H3.out.r5.cell 2
    have f2 := H3.out.r5.thawed 2
    have d3 := H3.out.r5.cell 3
    have f3 := H3.out.r5.thawed 3
    simp at y0 y1 y2 y3 y4 y5 y6 z0 q0 d0 d1 d2 d3

    have CGA := Lib.hid (CG.out w3 H3.out.tu)
    obtain ⟨fo, hfo⟩ : ∃ b, (getL M k).isSome = b := ⟨_, rfl⟩
    obtain ⟨vo, hvo⟩ : ∃ b, (getL M k).getD ⟨#[]⟩ = b := ⟨_, rfl⟩
    rw [hfo, hvo] at CGA
    have HGA : Hid (gans (getL M k) = ⟨0, fo, ⟨#[]⟩, vo⟩ ∧ (getL M k).isSome = fo ∧ (getL M k).getD ⟨#[]⟩ = vo) := Lib.hid ⟨by unfold gans; rw [hfo, hvo], hfo, hvo⟩
    clear hfo hvo CG
    go_upto_region 6 with (go_at_call 76; refine CGA.out.mono ?_; rintro e w4 ⟨rfl, ht⟩; have H4 := Lib.hid (H3.out.no ht); clear ht)
    have tn : Turn No w4 (w4.alloc (.cells #[.int .i64 0, .bool fo, .string ⟨#[]⟩, .string vo] 38)) := (Turn.refl _ _).alloc _
    have HV : Hid (Dr Z w (w4.alloc (.cells #[.int .i64 0, .bool fo, .string ⟨#[]⟩, .string vo] 38)) g2 g3 g4 g5 #[.int .u8 kind, .string k, .string v, .string o, .bool had, .bool aft, .slice A3 ws.length cap3] (.slice A R.length cap) R R.length A cap ∧ At (w4.alloc (.cells #[.int .i64 0, .bool fo, .string ⟨#[]⟩, .string vo] 38)) w4.heap.size (.cells #[.int .i64 0, .bool fo, .string ⟨#[]⟩, .string vo] 38 (0, 0)) ∧ g5 < w4.heap.size) := Lib.hid ⟨H4.out.no tn, At.new _ _, H4.out.r5.lt⟩
    clear H3 H4 CGA tn y0 y1 y2 y3 y4 y5 y6 z0 zf q0 qf d0 d1 d2 d3 f0 f1 f2 f3
    generalize w4.alloc (.cells #[.int .i64 0, .bool fo, .string ⟨#[]⟩, .string vo] 38) = w5 at HV ⊢
    generalize w4.heap.size = g9 at HV ⊢
    have HS := Lib.hid HV.out.1
    have H9 := Lib.hid HV.out.2.1
    have m92 : ¬ g9 = g2 := by have a1 := HV.out.2.2; have a2 := HS.out.l3; have a3 := HS.out.l4; have a4 := HS.out.l5; omega
    have m94 : ¬ g9 = g4 := by have a1 := HV.out.2.2; have a2 := HS.out.l3; have a3 := HS.out.l4; have a4 := HS.out.l5; omega
    have m49 : ¬ g4 = g9 := by omega
    have m29 : ¬ g2 = g9 := by omega
    have m45 : ¬ g4 = g5 := by have a4 := HS.out.l5; omega
    have m54 : ¬ g5 = g4 := by omega
    have m24 : ¬ g2 = g4 := by have a2 := HS.out.l3; have a3 := HS.out.l4; omega
    have m42 : ¬ g4 = g2 := by omega
    have m25 : ¬ g2 = g5 := by have a2 := HS.out.l3; have a3 := HS.out.l4; have a4 := HS.out.l5; omega
    have m52 : ¬ g5 = g2 := by omega
    have m95 : ¬ g9 = g5 := by have a1 := HV.out.2.2; omega
    have m59 : ¬ g5 = g9 := by omega
    have m39 : ¬ g3 = g9 := by have a1 := HV.out.2.2; have a3 := HS.out.l4; have a4 := HS.out.l5; omega
    have m34 : ¬ g3 = g4 := by have a3 := HS.out.l4; omega
    have m35 : ¬ g3 = g5 := by have a3 := HS.out.l4; have a4 := HS.out.l5; omega
    have m32 : ¬ g3 = g2 := by have a2 := HS.out.l3; omega
    have HG59 := Lib.hid (Nat.le_of_lt HV.out.2.2)
    clear HV
    have q5 := HQ.out
    subst q5
    have y0 := HS.out.bo.cell 0
    have y1 := HS.out.bo.cell 1
    have y2 := HS.out.bo.cell 2
    have y3 := HS.out.bo.cell 3
    have y4 := HS.out.bo.cell 4
    have y5 := HS.out.bo.cell 5
    have y6 := HS.out.bo.cell 6
    have z0 := HS.out.bm.cell 0
    have zf := HS.out.bm.thawed 0
    have q0 := HS.out.r4.cell 0
    have qf := HS.out.r4.thawed 0
    have d0 := HS.out.r5.cell 0
    have f0 := HS.out.r5.thawed 0
    have d1 := HS.out.r5.cell 1
    have f1 := HS.out.r5.thawed 1
    have d2 := HS.out.r5.cell 2
    have f2 := HS.out.r5.thawed 2
    have d3 := HS.out.r5.cell 3
    have f3 := HS.out.r5.thawed 3
    simp at y0 y1 y2 y3 y4 y5 y6 z0 q0 d0 d1 d2 d3
    have e0 := H9.out.cell 0
    have e1 := H9.out.cell 1
    have e2 := H9.out.cell 2
    have e3 := H9.out.cell 3
    have h0 := H9.out.thawed 0
    have h1 := H9.out.thawed 1
    have h2 := H9.out.thawed 2
    have h3 := H9.out.thawed 3
    simp at e0 e1 e2 e3
    have HD := Lib.hid (HS.out.no ((Turn.refl No w5).drew))
    obtain ⟨an, han⟩ : ∃ b, nans (nexts M k aft) = b := ⟨_, rfl⟩
    have HAN := Lib.hid han
    have CC := Lib.hid (rnext_any R A cap k aft w5.drew ((row_of_own HD.out.row)) (by have := HIN.out.2.1; omega) HIN.out.2.2.1 HIN.out.2.2.2.2.2.2.1.1 HIN.out.2.2.2.1 HIN.out.2.2.2.2.1 han)
    obtain ⟨ac, af, ak, av⟩ := an
    simp only at CC
    clear han
    go_wp2_with fail
    go_region_law (first | (go_simp; go_at_call 78; (with_reducible refine CC.out.mono ?_); rintro e w6 ⟨rfl, ht⟩; have HS6 := Lib.hid (HD.out.no ht); clear ht; have y0 := HS6.out.bo.cell 0; have y1 := HS6.out.bo.cell 1; have y2 := HS6.out.bo.cell 2; have y3 := HS6.out.bo.cell 3; have y4 := HS6.out.bo.cell 4; have y5 := HS6.out.bo.cell 5; have y6 := HS6.out.bo.cell 6; have z0 := HS6.out.bm.cell 0; have zf := HS6.out.bm.thawed 0; have q0 := HS6.out.r4.cell 0; have qf := HS6.out.r4.thawed 0; have d0 := HS6.out.r5.cell 0; have f0 := HS6.out.r5.thawed 0; have d1 := HS6.out.r5.cell 1; have f1 := HS6.out.r5.thawed 1; have d2 := HS6.out.r5.cell 2; have f2 := HS6.out.r5.thawed 2; have d3 := HS6.out.r5.cell 3; have f3 := HS6.out.r5.thawed 3; simp at y0 y1 y2 y3 y4 y5 y6 z0 q0 d0 d1 d2 d3))
    all_goals go_wp2_with fail
    all_goals (try simp only [Exit.inBlock, Exit.then])
    all_goals first
      | (refine bodyPost_ret (results_cells2 rfl _ _ g4 g5 60 38 _ _ (0, 0) (0, 0) _ _ (by rfl) (by rfl) (HS6.out.finA (HS6.out.row) (HS6.out.old) (rfl) ⟨ac, af, ak, av⟩).a4 (HS6.out.finA (HS6.out.row) (HS6.out.old) (rfl) ⟨ac, af, ak, av⟩).a5 Try.underlying60 (by kernel_rfl) Try.underlying38 (by kernel_rfl)) rfl ?_; exact (HS6.out.finA (HS6.out.row) (HS6.out.old) (rfl) ⟨ac, af, ak, av⟩).rdo (by rw [← HLD.out.1]; simp [doR, HE.out]) (by rw [← HLD.out.2]; simp [doA, HE.out, HAN.out]))
      | (refine bodyPost_ret (results_cells2 rfl _ _ g4 g5 60 38 _ _ (0, 0) (0, 0) _ _ (by rfl) (by rfl) (HS6.out.finB (HS6.out.row) (HS6.out.old) (rfl) ⟨ac, af, ak, av⟩).a4 (HS6.out.finB (HS6.out.row) (HS6.out.old) (rfl) ⟨ac, af, ak, av⟩).a5 Try.underlying60 (by kernel_rfl) Try.underlying38 (by kernel_rfl)) rfl ?_; exact (HS6.out.finB (HS6.out.row) (HS6.out.old) (rfl) ⟨ac, af, ak, av⟩).rdo (by rw [← HLD.out.1]; simp [doR, HE.out]) (by rw [← HLD.out.2]; simp [doA, HE.out, HAN.out]))
  · have HE : Hid (refO kind k v o had ws = ev ∧ ev ≠ 0) := Lib.hid ⟨hev, he⟩
    have hq : (ev == 0) = false := by simpa using he
    have m45 : ¬ g4 = g5 := by have a4 := H3.out.l5; omega
    have m54 : ¬ g5 = g4 := by omega
    have hq2 : (ev != 0) = true := by simpa using he
    have y0 := H3.out.bo.cell 0
    have y1 := H3.out.bo.cell 1
    have y2 := H3.out.bo.cell 2
    have y3 := H3.out.bo.cell 3
    have y4 := H3.out.bo.cell 4
    have y5 := H3.out.bo.cell 5
    have y6 := H3.out.bo.cell 6
    have z0 := H3.out.bm.cell 0
    have zf := H3.out.bm.thawed 0
    have q0 := H3.out.r4.cell 0
    have qf := H3.out.r4.thawed 0
    have d0 := H3.out.r5.cell 0
    have f0 := H3.out.r5.thawed 0
    have d1 := H3.out.r5.cell 1
    have f1 := H3.out.r5.thawed 1
    have d2 := H3.out.r5.cell 2
    have f2 := H3.out.r5.thawed 2
    have d3 := H3.out.r5.cell 3
    have f3 := H3.out.r5.thawed 3
    simp at y0 y1 y2 y3 y4 y5 y6 z0 q0 d0 d1 d2 d3

    go_wp2_with fail
    all_goals (try simp only [Exit.inBlock, Exit.then])
    all_goals first
      | (refine bodyPost_ret (results_cells2 rfl _ _ g4 g5 60 38 _ _ (0, 0) (0, 0) _ _ (by rfl) (by rfl) (H3.out.finA (H3.out.row) (H3.out.old) (rfl) ⟨ev, false, ⟨#[]⟩, ⟨#[]⟩⟩).a4 (H3.out.finA (H3.out.row) (H3.out.old) (rfl) ⟨ev, false, ⟨#[]⟩, ⟨#[]⟩⟩).a5 Try.underlying60 (by kernel_rfl) Try.underlying38 (by kernel_rfl)) rfl ?_; exact (H3.out.finA (H3.out.row) (H3.out.old) (rfl) ⟨ev, false, ⟨#[]⟩, ⟨#[]⟩⟩).rdo (by rw [← HLD.out.1, doR.eq_1, if_neg (by rw [HE.out.1]; exact HE.out.2)]) (by rw [← HLD.out.2, doA.eq_1, if_neg (by rw [HE.out.1]; exact HE.out.2), HE.out.1]))
      | (refine bodyPost_ret (results_cells2 rfl _ _ g4 g5 60 38 _ _ (0, 0) (0, 0) _ _ (by rfl) (by rfl) (H3.out.finB (H3.out.row) (H3.out.old) (rfl) ⟨ev, false, ⟨#[]⟩, ⟨#[]⟩⟩).a4 (H3.out.finB (H3.out.row) (H3.out.old) (rfl) ⟨ev, false, ⟨#[]⟩, ⟨#[]⟩⟩).a5 Try.underlying60 (by kernel_rfl) Try.underlying38 (by kernel_rfl)) rfl ?_; exact (H3.out.finB (H3.out.row) (H3.out.old) (rfl) ⟨ev, false, ⟨#[]⟩, ⟨#[]⟩⟩).rdo (by rw [← HLD.out.1, doR.eq_1, if_neg (by rw [HE.out.1]; exact HE.out.2)]) (by rw [← HLD.out.2, doA.eq_1, if_neg (by rw [HE.out.1]; exact HE.out.2), HE.out.1]))

set_option maxRecDepth 100000 in
set_option maxHeartbeats 16000000 in
theorem rdo_6 (R M : List Pr) (A : Option Addr) (cap : Nat) (kind : Int) (k v o : ByteArray) (had aft : Bool) (A3 : Option Addr) (cap3 : Nat) (ws : List Wr) (w : World) {Z : Nat} (hZ : Z ≤ w.heap.size) (hR : w.ownsRow Z 47 2 (.slice A R.length cap) R.length (pcs R)) (hl : R.length + ws.length ≤ 40000)
    (hfit : ∀ p ∈ R, Fit p.k ∧ Fit p.v) (hs : Sim R M) (ha : Asc M) (hrow : Row w A3 (wcs ws)) (hf : Fit k ∧ Fit v ∧ Fit o) (hfw : ∀ x ∈ ws, Fit x.k ∧ Fit x.v) (hq : kind = 6) :
    Calls Try.prog 36 #[.agg #[.slice A R.length cap], .agg #[.int .u8 kind, .string k, .string v, .string o, .bool had, .bool aft, .slice A3 ws.length cap3]] w (RDo Z w (.slice A R.length cap) (doR R kind k v o had aft ws) (doA M kind k v o had aft ws)) := by
  obtain ⟨DA, hDA⟩ : ∃ a, doA M kind k v o had aft ws = a := ⟨_, rfl⟩
  obtain ⟨DR, hDR⟩ : ∃ a, doR R kind k v o had aft ws = a := ⟨_, rfl⟩
  have HLD := Lib.hid (And.intro hDR hDA)
  rw [hDA, hDR]
  clear hDA hDR
  have HS : Hid (Dr Z w ((((w.alloc (.cells #[.slice A R.length cap] 60)).alloc (.cells #[.int .u8 kind, .string k, .string v, .string o, .bool had, .bool aft, .slice A3 ws.length cap3] 34)).alloc (.cells #[.slice none 0 0] 60)).alloc (.cells #[.int .i64 0, .bool false, .string ⟨#[]⟩, .string ⟨#[]⟩] 38)) w.heap.size (w.heap.size + 1) (w.heap.size + 2) (w.heap.size + 3) #[.int .u8 kind, .string k, .string v, .string o, .bool had, .bool aft, .slice A3 ws.length cap3] (.slice A R.length cap) R R.length A cap) := Lib.hid (by
    have t1 : Turn No w (w.alloc (.cells #[.slice A R.length cap] 60)) := (Turn.refl _ _).alloc _
    have t2 : Turn No (w.alloc (.cells #[.slice A R.length cap] 60)) ((w.alloc (.cells #[.slice A R.length cap] 60)).alloc (.cells #[.int .u8 kind, .string k, .string v, .string o, .bool had, .bool aft, .slice A3 ws.length cap3] 34)) := (Turn.refl _ _).alloc _
    have t3 : Turn No ((w.alloc (.cells #[.slice A R.length cap] 60)).alloc (.cells #[.int .u8 kind, .string k, .string v, .string o, .bool had, .bool aft, .slice A3 ws.length cap3] 34)) (((w.alloc (.cells #[.slice A R.length cap] 60)).alloc (.cells #[.int .u8 kind, .string k, .string v, .string o, .bool had, .bool aft, .slice A3 ws.length cap3] 34)).alloc (.cells #[.slice none 0 0] 60)) := (Turn.refl _ _).alloc _
    have t4 : Turn No (((w.alloc (.cells #[.slice A R.length cap] 60)).alloc (.cells #[.int .u8 kind, .string k, .string v, .string o, .bool had, .bool aft, .slice A3 ws.length cap3] 34)).alloc (.cells #[.slice none 0 0] 60)) ((((w.alloc (.cells #[.slice A R.length cap] 60)).alloc (.cells #[.int .u8 kind, .string k, .string v, .string o, .bool had, .bool aft, .slice A3 ws.length cap3] 34)).alloc (.cells #[.slice none 0 0] 60)).alloc (.cells #[.int .i64 0, .bool false, .string ⟨#[]⟩, .string ⟨#[]⟩] 38)) := (Turn.refl _ _).alloc _
    refine ⟨((t1.trans t2).trans t3).trans t4, (((At.new _ _).no t2).no t3).no t4, ((At.new2 _ _ _).no t3).no t4, ?_, ?_, own_grown hR (((t1.trans t2).trans t3).trans t4) (fun _ _ h => h), fun k hk => Or.inl hk, by omega, by omega, by omega, by omega, rfl, hZ⟩
    · exact (by simpa using At.new ((w.alloc (.cells #[.slice A R.length cap] 60)).alloc (.cells #[.int .u8 kind, .string k, .string v, .string o, .bool had, .bool aft, .slice A3 ws.length cap3] 34)) (.cells #[.slice none 0 0] 60) : At (((w.alloc (.cells #[.slice A R.length cap] 60)).alloc (.cells #[.int .u8 kind, .string k, .string v, .string o, .bool had, .bool aft, .slice A3 ws.length cap3] 34)).alloc (.cells #[.slice none 0 0] 60)) (w.heap.size + 2) (.cells #[.slice none 0 0] 60 (0, 0))).no t4
    · simpa using At.new (((w.alloc (.cells #[.slice A R.length cap] 60)).alloc (.cells #[.int .u8 kind, .string k, .string v, .string o, .bool had, .bool aft, .slice A3 ws.length cap3] 34)).alloc (.cells #[.slice none 0 0] 60)) (.cells #[.int .i64 0, .bool false, .string ⟨#[]⟩, .string ⟨#[]⟩] 38))
  have CR := Lib.hid fun (W : World) (t : Turn No w W) => rrefused_any kind k v o had aft A3 cap3 ws W (hrow.no t) hf.1 hf.2.1 hf.2.2 hfw (by omega)
  have CG := Lib.hid fun (W : World) (t : Turn No w W) => rget_any R A cap k W ((row_of_own hR).no t) (by omega)
  rw [hs.get] at CG
  have HIN := Lib.hid (And.intro hR (And.intro hl (And.intro hfit (And.intro hs (And.intro ha (And.intro hrow (And.intro hf hfw)))))))
  have hwn : ws.length ≤ 40000 := by omega
  clear hZ hR hl hfit hs ha hrow hf hfw
  have HQ := Lib.hid hq
  clear hq
  obtain ⟨ev, hev⟩ : ∃ e, refO kind k v o had ws = e := ⟨_, rfl⟩
  rw [hev] at CR
  go_enter Try.func36, Try.ntmps36
  go_upto_region 1 with fail
  generalize ((((w.alloc (.cells #[.slice A R.length cap] 60)).alloc (.cells #[.int .u8 kind, .string k, .string v, .string o, .bool had, .bool aft, .slice A3 ws.length cap3] 34)).alloc (.cells #[.slice none 0 0] 60)).alloc (.cells #[.int .i64 0, .bool false, .string ⟨#[]⟩, .string ⟨#[]⟩] 38)) = w1 at HS ⊢
  obtain ⟨g2, hg2⟩ : ∃ g, w.heap.size = g := ⟨_, rfl⟩
  rw [hg2] at HS ⊢
  clear hg2
  obtain ⟨g3, hg3⟩ : ∃ g, g2 + 1 = g := ⟨_, rfl⟩
  obtain ⟨g4, hg4⟩ : ∃ g, g2 + 2 = g := ⟨_, rfl⟩
  obtain ⟨g5, hg5⟩ : ∃ g, g2 + 3 = g := ⟨_, rfl⟩
  rw [hg3, hg4, hg5] at HS
  (try rw [hg3]); (try rw [hg4]); (try rw [hg5]); (try rw [show g2 + 1 + 1 = g4 from hg4]); (try rw [show g2 + 1 + 1 + 1 = g5 from hg5]); (try rw [show g3 + 1 = g4 by omega]); (try rw [show g4 + 1 = g5 by omega]); (try rw [show g3 + 1 + 1 = g5 by omega])
  clear hg3 hg4 hg5
  have y0 := HS.out.bo.cell 0
  have y1 := HS.out.bo.cell 1
  have y2 := HS.out.bo.cell 2
  have y3 := HS.out.bo.cell 3
  have y4 := HS.out.bo.cell 4
  have y5 := HS.out.bo.cell 5
  have y6 := HS.out.bo.cell 6
  have z0 := HS.out.bm.cell 0
  have zf := HS.out.bm.thawed 0
  have q0 := HS.out.r4.cell 0
  have qf := HS.out.r4.thawed 0
  have d0 := HS.out.r5.cell 0
  have f0 := HS.out.r5.thawed 0
  have d1 := HS.out.r5.cell 1
  have f1 := HS.out.r5.thawed 1
  have d2 := HS.out.r5.cell 2
  have f2 := HS.out.r5.thawed 2
  have d3 := HS.out.r5.cell 3
  have f3 := HS.out.r5.thawed 3
  simp at y0 y1 y2 y3 y4 y5 y6 z0 q0 d0 d1 d2 d3

  go_upto_region 2 with (go_at_call 75; refine (CR.out _ HS.out.tu).mono ?_; rintro e w3 ⟨rfl, ht⟩; have H3 := Lib.hid (HS.out.no ht); clear ht)
  clear CR HS y0 y1 y2 y3 y4 y5 y6 z0 zf q0 qf d0 d1 d2 d3 f0 f1 f2 f3
  by_cases he : ev = 0
  · have HE : Hid (refO kind k v o had ws = 0) := Lib.hid (hev.trans he)
    subst he
    clear hev
    have y0 := H3.out.bo.cell 0
    have y1 := H3.out.bo.cell 1
    have y2 := H3.out.bo.cell 2
    have y3 := H3.out.bo.cell 3
    have y4 := H3.out.bo.cell 4
    have y5 := H3.out.bo.cell 5
    have y6 := H3.out.bo.cell 6
    have z0 := H3.out.bm.cell 0
    have zf := H3.out.bm.thawed 0
    have q0 := H3.out.r4.cell 0
    have qf := H3.out.r4.thawed 0
    have d0 := H3.out.r5.cell 0
    have f0 := H3.out.r5.thawed 0
    have d1 := H3.out.r5.cell 1
    have f1 := H3.out.r5.thawed 1
    have d2 := H3.out.r5.cell 2
    have f2 := H3.out.r5.thawed 2
    have d3 := H3.out.r5.cell 3
    have f3 := H3.out.r5.thawed 3
    simp at y0 y1 y2 y3 y4 y5 y6 z0 q0 d0 d1 d2 d3

    have CGA := Lib.hid (CG.out w3 H3.out.tu)
    obtain ⟨fo, hfo⟩ : ∃ b, (getL M k).isSome = b := ⟨_, rfl⟩
    obtain ⟨vo, hvo⟩ : ∃ b, (getL M k).getD ⟨#[]⟩ = b := ⟨_, rfl⟩
    rw [hfo, hvo] at CGA
    have HGA : Hid (gans (getL M k) = ⟨0, fo, ⟨#[]⟩, vo⟩ ∧ (getL M k).isSome = fo ∧ (getL M k).getD ⟨#[]⟩ = vo) := Lib.hid ⟨by unfold gans; rw [hfo, hvo], hfo, hvo⟩
    clear hfo hvo CG
    go_upto_region 6 with (go_at_call 76; refine CGA.out.mono ?_; rintro e w4 ⟨rfl, ht⟩; have H4 := Lib.hid (H3.out.no ht); clear ht)
    have tn : Turn No w4 (w4.alloc (.cells #[.int .i64 0, .bool fo, .string ⟨#[]⟩, .string vo] 38)) := (Turn.refl _ _).alloc _
    have HV : Hid (Dr Z w (w4.alloc (.cells #[.int .i64 0, .bool fo, .string ⟨#[]⟩, .string vo] 38)) g2 g3 g4 g5 #[.int .u8 kind, .string k, .string v, .string o, .bool had, .bool aft, .slice A3 ws.length cap3] (.slice A R.length cap) R R.length A cap ∧ At (w4.alloc (.cells #[.int .i64 0, .bool fo, .string ⟨#[]⟩, .string vo] 38)) w4.heap.size (.cells #[.int .i64 0, .bool fo, .string ⟨#[]⟩, .string vo] 38 (0, 0)) ∧ g5 < w4.heap.size) := Lib.hid ⟨H4.out.no tn, At.new _ _, H4.out.r5.lt⟩
    clear H3 H4 CGA tn y0 y1 y2 y3 y4 y5 y6 z0 zf q0 qf d0 d1 d2 d3 f0 f1 f2 f3
    generalize w4.alloc (.cells #[.int .i64 0, .bool fo, .string ⟨#[]⟩, .string vo] 38) = w5 at HV ⊢
    generalize w4.heap.size = g9 at HV ⊢
    have HS := Lib.hid HV.out.1
    have H9 := Lib.hid HV.out.2.1
    have m92 : ¬ g9 = g2 := by have a1 := HV.out.2.2; have a2 := HS.out.l3; have a3 := HS.out.l4; have a4 := HS.out.l5; omega
    have m94 : ¬ g9 = g4 := by have a1 := HV.out.2.2; have a2 := HS.out.l3; have a3 := HS.out.l4; have a4 := HS.out.l5; omega
    have m49 : ¬ g4 = g9 := by omega
    have m29 : ¬ g2 = g9 := by omega
    have m45 : ¬ g4 = g5 := by have a4 := HS.out.l5; omega
    have m54 : ¬ g5 = g4 := by omega
    have m24 : ¬ g2 = g4 := by have a2 := HS.out.l3; have a3 := HS.out.l4; omega
    have m42 : ¬ g4 = g2 := by omega
    have m25 : ¬ g2 = g5 := by have a2 := HS.out.l3; have a3 := HS.out.l4; have a4 := HS.out.l5; omega
    have m52 : ¬ g5 = g2 := by omega
    have m95 : ¬ g9 = g5 := by have a1 := HV.out.2.2; omega
    have m59 : ¬ g5 = g9 := by omega
    have m39 : ¬ g3 = g9 := by have a1 := HV.out.2.2; have a3 := HS.out.l4; have a4 := HS.out.l5; omega
    have m34 : ¬ g3 = g4 := by have a3 := HS.out.l4; omega
    have m35 : ¬ g3 = g5 := by have a3 := HS.out.l4; have a4 := HS.out.l5; omega
    have m32 : ¬ g3 = g2 := by have a2 := HS.out.l3; omega
    have HG59 := Lib.hid (Nat.le_of_lt HV.out.2.2)
    clear HV
    have q6 := HQ.out
    subst q6
    have y0 := HS.out.bo.cell 0
    have y1 := HS.out.bo.cell 1
    have y2 := HS.out.bo.cell 2
    have y3 := HS.out.bo.cell 3
    have y4 := HS.out.bo.cell 4
    have y5 := HS.out.bo.cell 5
    have y6 := HS.out.bo.cell 6
    have z0 := HS.out.bm.cell 0
    have zf := HS.out.bm.thawed 0
    have q0 := HS.out.r4.cell 0
    have qf := HS.out.r4.thawed 0
    have d0 := HS.out.r5.cell 0
    have f0 := HS.out.r5.thawed 0
    have d1 := HS.out.r5.cell 1
    have f1 := HS.out.r5.thawed 1
    have d2 := HS.out.r5.cell 2
    have f2 := HS.out.r5.thawed 2
    have d3 := HS.out.r5.cell 3
    have f3 := HS.out.r5.thawed 3
    simp at y0 y1 y2 y3 y4 y5 y6 z0 q0 d0 d1 d2 d3
    go_upto_region 22 with fail
    go_loopw [10] (fun i wr => ∃ kk : Nat, kk ≤ ws.length ∧ i = .int .i64 (kk : Int) ∧ Hid (∃ m B c, Dr Z w wr g2 g3 g4 g5 #[.int .u8 6, .string k, .string v, .string o, .bool had, .bool aft, .slice A3 ws.length cap3] (.slice A R.length cap) (wrR R (ws.take kk)) m B c)) (fun i _ => ws.length - (RowKit.intOf i).toNat)
    case atStart => exact ⟨0, Nat.zero_le _, rfl, Lib.hid ⟨_, _, _, HS.out⟩⟩
    case round =>
      obtain ⟨kk, hk, rfl, HP⟩ := hrel
      clear HS H9 y0 y1 y2 y3 y4 y5 y6 z0 zf q0 qf d0 d1 d2 d3 f0 f1 f2 f3
      obtain ⟨m, B, c, hdr⟩ := HP.out
      have HS := Lib.hid hdr
      clear hdr HP
      have y0 := HS.out.bo.cell 0
      have y1 := HS.out.bo.cell 1
      have y2 := HS.out.bo.cell 2
      have y3 := HS.out.bo.cell 3
      have y4 := HS.out.bo.cell 4
      have y5 := HS.out.bo.cell 5
      have y6 := HS.out.bo.cell 6
      have z0 := HS.out.bm.cell 0
      have zf := HS.out.bm.thawed 0
      have q0 := HS.out.r4.cell 0
      have qf := HS.out.r4.thawed 0
      have d0 := HS.out.r5.cell 0
      have f0 := HS.out.r5.thawed 0
      have d1 := HS.out.r5.cell 1
      have f1 := HS.out.r5.thawed 1
      have d2 := HS.out.r5.cell 2
      have f2 := HS.out.r5.thawed 2
      have d3 := HS.out.r5.cell 3
      have f3 := HS.out.r5.thawed 3
      simp at y0 y1 y2 y3 y4 y5 y6 z0 q0 d0 d1 d2 d3
      by_cases hlt : kk < ws.length
      · obtain ⟨x, hx⟩ : ∃ x, ws[kk]? = some x := ⟨ws[kk], List.getElem?_eq_getElem hlt⟩
        obtain ⟨b, off, hA, hb, x0, x1, x2⟩ := (HIN.out.2.2.2.2.2.1.no HS.out.tu).wr hx
        have HE2 := Lib.hid (wrR_snoc hx R)
        have hlen : (wrR R (ws.take kk)).length ≤ 50000 := by have h1 := wrR_len R (ws.take kk); have h2 := HIN.out.2.1; rw [List.length_take] at h1; omega
        obtain ⟨xk, xv, xg⟩ := x
        simp only at x0 x1 x2 HE2
        subst hA
        clear hb hx
        obtain ⟨L1, hL1⟩ : ∃ L, wrR R (ws.take kk) = L := ⟨_, rfl⟩
        rw [hL1] at HS HE2 hlen
        clear hL1
        have tn : Turn No wr (wr.alloc (.cells #[.string xk, .string xv, .bool xg] 68)) := (Turn.refl _ _).alloc _
        have HV := Lib.hid (HS.out.no tn)
        have HX := Lib.hid (At.new wr (.cells #[.string xk, .string xv, .bool xg] 68))
        clear tn
        go_upto_region 25 with fail
        generalize wr.alloc (.cells #[.string xk, .string xv, .bool xg] 68) = w2 at HV HX ⊢
        generalize wr.heap.size = g11 at HX ⊢
        clear HS x0 x1 x2 y0 y1 y2 y3 y4 y5 y6 z0 zf q0 qf d0 d1 d2 d3 f0 f1 f2 f3
        have x0 := HX.out.cell 0
        have x1 := HX.out.cell 1
        have x2 := HX.out.cell 2
        simp at x0 x1 x2
        have y0 := HV.out.bo.cell 0
        have y1 := HV.out.bo.cell 1
        have y2 := HV.out.bo.cell 2
        have y3 := HV.out.bo.cell 3
        have y4 := HV.out.bo.cell 4
        have y5 := HV.out.bo.cell 5
        have y6 := HV.out.bo.cell 6
        have z0 := HV.out.bm.cell 0
        have zf := HV.out.bm.thawed 0
        have q0 := HV.out.r4.cell 0
        have qf := HV.out.r4.thawed 0
        have d0 := HV.out.r5.cell 0
        have f0 := HV.out.r5.thawed 0
        have d1 := HV.out.r5.cell 1
        have f1 := HV.out.r5.thawed 1
        have d2 := HV.out.r5.cell 2
        have f2 := HV.out.r5.thawed 2
        have d3 := HV.out.r5.cell 3
        have f3 := HV.out.r5.thawed 3
        simp at y0 y1 y2 y3 y4 y5 y6 z0 q0 d0 d1 d2 d3
        rw [HV.out.hm.symm] at z0
        have hmm := HV.out.hm
        subst hmm
        cases xg with
        | true =>
          have CC := Lib.hid (without_any L1 B c xk w2 (row_of_own HV.out.row) hlen)
          obtain ⟨R2, hR2⟩ : ∃ x, delL L1 xk = x := ⟨_, rfl⟩
          rw [hR2] at CC
          have HE3 : Hid (wrR R (ws.take (kk + 1)) = R2) := Lib.hid (by rw [HE2.out, ← hR2]; simp [wrR1])
          clear hR2 HE2 hlen
          go_wp2_with (go_at_call 77; (with_reducible refine CC.out.mono ?_); rintro e w8 ⟨B2, c2, rfl, ho, ht⟩; have HS8 := Lib.hid (HV.out.step ht ho); have HB8 := Lib.hid (HV.out.bm.no ht); clear ho ht; have z0 := HB8.out.cell 0; have zf := HB8.out.thawed 0; simp at z0)
          exact ⟨⟨kk + 1, by omega, by go_num, by rw [HE3.out]; exact Lib.hid ⟨_, _, _, HS8.out⟩⟩, by simp [RowKit.intOf]; omega⟩
        | false =>
          have CC := Lib.hid (with_any L1 B c xk xv w2 (row_of_own HV.out.row) hlen)
          obtain ⟨R2, hR2⟩ : ∃ x, withL L1 xk xv = x := ⟨_, rfl⟩
          rw [hR2] at CC
          have HE3 : Hid (wrR R (ws.take (kk + 1)) = R2) := Lib.hid (by rw [HE2.out, ← hR2]; simp [wrR1])
          clear hR2 HE2 hlen
          go_wp2_with (go_at_call 72; (with_reducible refine CC.out.mono ?_); rintro e w8 ⟨B2, c2, rfl, ho, ht⟩; have HS8 := Lib.hid (HV.out.step ht ho); have HB8 := Lib.hid (HV.out.bm.no ht); clear ho ht; have z0 := HB8.out.cell 0; have zf := HB8.out.thawed 0; simp at z0)
          exact ⟨⟨kk + 1, by omega, by go_num, by rw [HE3.out]; exact Lib.hid ⟨_, _, _, HS8.out⟩⟩, by simp [RowKit.intOf]; omega⟩
      · obtain rfl : kk = ws.length := by omega
        go_wp2_with fail
        all_goals (try simp only [Exit.inBlock, Exit.then])
        all_goals first
          | (refine bodyPost_ret (results_cells2 rfl _ _ g4 g5 60 38 _ _ (0, 0) (0, 0) _ _ (by rfl) (by rfl) (HS.out.finA (HS.out.row) (HS.out.old) (HS.out.hm) ⟨0, false, ⟨#[]⟩, ⟨#[]⟩⟩).a4 (HS.out.finA (HS.out.row) (HS.out.old) (HS.out.hm) ⟨0, false, ⟨#[]⟩, ⟨#[]⟩⟩).a5 Try.underlying60 (by kernel_rfl) Try.underlying38 (by kernel_rfl)) rfl ?_; exact (HS.out.finA (HS.out.row) (HS.out.old) (HS.out.hm) ⟨0, false, ⟨#[]⟩, ⟨#[]⟩⟩).rdo (by rw [← HLD.out.1, List.take_length]; simp [doR, HE.out]) (by rw [← HLD.out.2]; simp [doA, HE.out]))
          | (refine bodyPost_ret (results_cells2 rfl _ _ g4 g5 60 38 _ _ (0, 0) (0, 0) _ _ (by rfl) (by rfl) (HS.out.finB (HS.out.row) (HS.out.old) (HS.out.hm) ⟨0, false, ⟨#[]⟩, ⟨#[]⟩⟩).a4 (HS.out.finB (HS.out.row) (HS.out.old) (HS.out.hm) ⟨0, false, ⟨#[]⟩, ⟨#[]⟩⟩).a5 Try.underlying60 (by kernel_rfl) Try.underlying38 (by kernel_rfl)) rfl ?_; exact (HS.out.finB (HS.out.row) (HS.out.old) (HS.out.hm) ⟨0, false, ⟨#[]⟩, ⟨#[]⟩⟩).rdo (by rw [← HLD.out.1, List.take_length]; simp [doR, HE.out]) (by rw [← HLD.out.2]; simp [doA, HE.out]))
  · have HE : Hid (refO kind k v o had ws = ev ∧ ev ≠ 0) := Lib.hid ⟨hev, he⟩
    have hq : (ev == 0) = false := by simpa using he
    have m45 : ¬ g4 = g5 := by have a4 := H3.out.l5; omega
    have m54 : ¬ g5 = g4 := by omega
    have hq2 : (ev != 0) = true := by simpa using he
    have y0 := H3.out.bo.cell 0
    have y1 := H3.out.bo.cell 1
    have y2 := H3.out.bo.cell 2
    have y3 := H3.out.bo.cell 3
    have y4 := H3.out.bo.cell 4
    have y5 := H3.out.bo.cell 5
    have y6 := H3.out.bo.cell 6
    have z0 := H3.out.bm.cell 0
    have zf := H3.out.bm.thawed 0
    have q0 := H3.out.r4.cell 0
    have qf := H3.out.r4.thawed 0
    have d0 := H3.out.r5.cell 0
    have f0 := H3.out.r5.thawed 0
    have d1 := H3.out.r5.cell 1
    have f1 := H3.out.r5.thawed 1
    have d2 := H3.out.r5.cell 2
    have f2 := H3.out.r5.thawed 2
    have d3 := H3.out.r5.cell 3
    have f3 := H3.out.r5.thawed 3
    simp at y0 y1 y2 y3 y4 y5 y6 z0 q0 d0 d1 d2 d3

    go_wp2_with fail
    all_goals (try simp only [Exit.inBlock, Exit.then])
    all_goals first
      | (refine bodyPost_ret (results_cells2 rfl _ _ g4 g5 60 38 _ _ (0, 0) (0, 0) _ _ (by rfl) (by rfl) (H3.out.finA (H3.out.row) (H3.out.old) (rfl) ⟨ev, false, ⟨#[]⟩, ⟨#[]⟩⟩).a4 (H3.out.finA (H3.out.row) (H3.out.old) (rfl) ⟨ev, false, ⟨#[]⟩, ⟨#[]⟩⟩).a5 Try.underlying60 (by kernel_rfl) Try.underlying38 (by kernel_rfl)) rfl ?_; exact (H3.out.finA (H3.out.row) (H3.out.old) (rfl) ⟨ev, false, ⟨#[]⟩, ⟨#[]⟩⟩).rdo (by rw [← HLD.out.1, doR.eq_1, if_neg (by rw [HE.out.1]; exact HE.out.2)]) (by rw [← HLD.out.2, doA.eq_1, if_neg (by rw [HE.out.1]; exact HE.out.2), HE.out.1]))
      | (refine bodyPost_ret (results_cells2 rfl _ _ g4 g5 60 38 _ _ (0, 0) (0, 0) _ _ (by rfl) (by rfl) (H3.out.finB (H3.out.row) (H3.out.old) (rfl) ⟨ev, false, ⟨#[]⟩, ⟨#[]⟩⟩).a4 (H3.out.finB (H3.out.row) (H3.out.old) (rfl) ⟨ev, false, ⟨#[]⟩, ⟨#[]⟩⟩).a5 Try.underlying60 (by kernel_rfl) Try.underlying38 (by kernel_rfl)) rfl ?_; exact (H3.out.finB (H3.out.row) (H3.out.old) (rfl) ⟨ev, false, ⟨#[]⟩, ⟨#[]⟩⟩).rdo (by rw [← HLD.out.1, doR.eq_1, if_neg (by rw [HE.out.1]; exact HE.out.2)]) (by rw [← HLD.out.2, doA.eq_1, if_neg (by rw [HE.out.1]; exact HE.out.2), HE.out.1]))

set_option maxRecDepth 100000 in
set_option maxHeartbeats 16000000 in
theorem rdo_0 (R M : List Pr) (A : Option Addr) (cap : Nat) (kind : Int) (k v o : ByteArray) (had aft : Bool) (A3 : Option Addr) (cap3 : Nat) (ws : List Wr) (w : World) {Z : Nat} (hZ : Z ≤ w.heap.size) (hR : w.ownsRow Z 47 2 (.slice A R.length cap) R.length (pcs R)) (hl : R.length + ws.length ≤ 40000)
    (hfit : ∀ p ∈ R, Fit p.k ∧ Fit p.v) (hs : Sim R M) (ha : Asc M) (hrow : Row w A3 (wcs ws)) (hf : Fit k ∧ Fit v ∧ Fit o) (hfw : ∀ x ∈ ws, Fit x.k ∧ Fit x.v) (hq : kind ≠ 1 ∧ kind ≠ 2 ∧ kind ≠ 3 ∧ kind ≠ 4 ∧ kind ≠ 5 ∧ kind ≠ 6) :
    Calls Try.prog 36 #[.agg #[.slice A R.length cap], .agg #[.int .u8 kind, .string k, .string v, .string o, .bool had, .bool aft, .slice A3 ws.length cap3]] w (RDo Z w (.slice A R.length cap) (doR R kind k v o had aft ws) (doA M kind k v o had aft ws)) := by
  obtain ⟨DA, hDA⟩ : ∃ a, doA M kind k v o had aft ws = a := ⟨_, rfl⟩
  obtain ⟨DR, hDR⟩ : ∃ a, doR R kind k v o had aft ws = a := ⟨_, rfl⟩
  have HLD := Lib.hid (And.intro hDR hDA)
  rw [hDA, hDR]
  clear hDA hDR
  have HS : Hid (Dr Z w ((((w.alloc (.cells #[.slice A R.length cap] 60)).alloc (.cells #[.int .u8 kind, .string k, .string v, .string o, .bool had, .bool aft, .slice A3 ws.length cap3] 34)).alloc (.cells #[.slice none 0 0] 60)).alloc (.cells #[.int .i64 0, .bool false, .string ⟨#[]⟩, .string ⟨#[]⟩] 38)) w.heap.size (w.heap.size + 1) (w.heap.size + 2) (w.heap.size + 3) #[.int .u8 kind, .string k, .string v, .string o, .bool had, .bool aft, .slice A3 ws.length cap3] (.slice A R.length cap) R R.length A cap) := Lib.hid (by
    have t1 : Turn No w (w.alloc (.cells #[.slice A R.length cap] 60)) := (Turn.refl _ _).alloc _
    have t2 : Turn No (w.alloc (.cells #[.slice A R.length cap] 60)) ((w.alloc (.cells #[.slice A R.length cap] 60)).alloc (.cells #[.int .u8 kind, .string k, .string v, .string o, .bool had, .bool aft, .slice A3 ws.length cap3] 34)) := (Turn.refl _ _).alloc _
    have t3 : Turn No ((w.alloc (.cells #[.slice A R.length cap] 60)).alloc (.cells #[.int .u8 kind, .string k, .string v, .string o, .bool had, .bool aft, .slice A3 ws.length cap3] 34)) (((w.alloc (.cells #[.slice A R.length cap] 60)).alloc (.cells #[.int .u8 kind, .string k, .string v, .string o, .bool had, .bool aft, .slice A3 ws.length cap3] 34)).alloc (.cells #[.slice none 0 0] 60)) := (Turn.refl _ _).alloc _
    have t4 : Turn No (((w.alloc (.cells #[.slice A R.length cap] 60)).alloc (.cells #[.int .u8 kind, .string k, .string v, .string o, .bool had, .bool aft, .slice A3 ws.length cap3] 34)).alloc (.cells #[.slice none 0 0] 60)) ((((w.alloc (.cells #[.slice A R.length cap] 60)).alloc (.cells #[.int .u8 kind, .string k, .string v, .string o, .bool had, .bool aft, .slice A3 ws.length cap3] 34)).alloc (.cells #[.slice none 0 0] 60)).alloc (.cells #[.int .i64 0, .bool false, .string ⟨#[]⟩, .string ⟨#[]⟩] 38)) := (Turn.refl _ _).alloc _
    refine ⟨((t1.trans t2).trans t3).trans t4, (((At.new _ _).no t2).no t3).no t4, ((At.new2 _ _ _).no t3).no t4, ?_, ?_, own_grown hR (((t1.trans t2).trans t3).trans t4) (fun _ _ h => h), fun k hk => Or.inl hk, by omega, by omega, by omega, by omega, rfl, hZ⟩
    · exact (by simpa using At.new ((w.alloc (.cells #[.slice A R.length cap] 60)).alloc (.cells #[.int .u8 kind, .string k, .string v, .string o, .bool had, .bool aft, .slice A3 ws.length cap3] 34)) (.cells #[.slice none 0 0] 60) : At (((w.alloc (.cells #[.slice A R.length cap] 60)).alloc (.cells #[.int .u8 kind, .string k, .string v, .string o, .bool had, .bool aft, .slice A3 ws.length cap3] 34)).alloc (.cells #[.slice none 0 0] 60)) (w.heap.size + 2) (.cells #[.slice none 0 0] 60 (0, 0))).no t4
    · simpa using At.new (((w.alloc (.cells #[.slice A R.length cap] 60)).alloc (.cells #[.int .u8 kind, .string k, .string v, .string o, .bool had, .bool aft, .slice A3 ws.length cap3] 34)).alloc (.cells #[.slice none 0 0] 60)) (.cells #[.int .i64 0, .bool false, .string ⟨#[]⟩, .string ⟨#[]⟩] 38))
  have CR := Lib.hid fun (W : World) (t : Turn No w W) => rrefused_any kind k v o had aft A3 cap3 ws W (hrow.no t) hf.1 hf.2.1 hf.2.2 hfw (by omega)
  have CG := Lib.hid fun (W : World) (t : Turn No w W) => rget_any R A cap k W ((row_of_own hR).no t) (by omega)
  rw [hs.get] at CG
  have HIN := Lib.hid (And.intro hR (And.intro hl (And.intro hfit (And.intro hs (And.intro ha (And.intro hrow (And.intro hf hfw)))))))
  have hwn : ws.length ≤ 40000 := by omega
  clear hZ hR hl hfit hs ha hrow hf hfw
  have HQ := Lib.hid hq
  clear hq
  obtain ⟨ev, hev⟩ : ∃ e, refO kind k v o had ws = e := ⟨_, rfl⟩
  rw [hev] at CR
  go_enter Try.func36, Try.ntmps36
  go_upto_region 1 with fail
  generalize ((((w.alloc (.cells #[.slice A R.length cap] 60)).alloc (.cells #[.int .u8 kind, .string k, .string v, .string o, .bool had, .bool aft, .slice A3 ws.length cap3] 34)).alloc (.cells #[.slice none 0 0] 60)).alloc (.cells #[.int .i64 0, .bool false, .string ⟨#[]⟩, .string ⟨#[]⟩] 38)) = w1 at HS ⊢
  obtain ⟨g2, hg2⟩ : ∃ g, w.heap.size = g := ⟨_, rfl⟩
  rw [hg2] at HS ⊢
  clear hg2
  obtain ⟨g3, hg3⟩ : ∃ g, g2 + 1 = g := ⟨_, rfl⟩
  obtain ⟨g4, hg4⟩ : ∃ g, g2 + 2 = g := ⟨_, rfl⟩
  obtain ⟨g5, hg5⟩ : ∃ g, g2 + 3 = g := ⟨_, rfl⟩
  rw [hg3, hg4, hg5] at HS
  (try rw [hg3]); (try rw [hg4]); (try rw [hg5]); (try rw [show g2 + 1 + 1 = g4 from hg4]); (try rw [show g2 + 1 + 1 + 1 = g5 from hg5]); (try rw [show g3 + 1 = g4 by omega]); (try rw [show g4 + 1 = g5 by omega]); (try rw [show g3 + 1 + 1 = g5 by omega])
  clear hg3 hg4 hg5
  have y0 := HS.out.bo.cell 0
  have y1 := HS.out.bo.cell 1
  have y2 := HS.out.bo.cell 2
  have y3 := HS.out.bo.cell 3
  have y4 := HS.out.bo.cell 4
  have y5 := HS.out.bo.cell 5
  have y6 := HS.out.bo.cell 6
  have z0 := HS.out.bm.cell 0
  have zf := HS.out.bm.thawed 0
  have q0 := HS.out.r4.cell 0
  have qf := HS.out.r4.thawed 0
  have d0 := HS.out.r5.cell 0
  have f0 := HS.out.r5.thawed 0
  have d1 := HS.out.r5.cell 1
  have f1 := HS.out.r5.thawed 1
  have d2 := HS.out.r5.cell 2
  have f2 := HS.out.r5.thawed 2
  have d3 := HS.out.r5.cell 3
  have f3 := HS.out.r5.thawed 3
  simp at y0 y1 y2 y3 y4 y5 y6 z0 q0 d0 d1 d2 d3

  go_upto_region 2 with (go_at_call 75; refine (CR.out _ HS.out.tu).mono ?_; rintro e w3 ⟨rfl, ht⟩; have H3 := Lib.hid (HS.out.no ht); clear ht)
  clear CR HS y0 y1 y2 y3 y4 y5 y6 z0 zf q0 qf d0 d1 d2 d3 f0 f1 f2 f3
  by_cases he : ev = 0
  · have HE : Hid (refO kind k v o had ws = 0) := Lib.hid (hev.trans he)
    subst he
    clear hev
    have y0 := H3.out.bo.cell 0
    have y1 := H3.out.bo.cell 1
    have y2 := H3.out.bo.cell 2
    have y3 := H3.out.bo.cell 3
    have y4 := H3.out.bo.cell 4
    have y5 := H3.out.bo.cell 5
    have y6 := H3.out.bo.cell 6
    have z0 := H3.out.bm.cell 0
    have zf := H3.out.bm.thawed 0
    have q0 := H3.out.r4.cell 0
    have qf := H3.out.r4.thawed 0
    have d0 := H3.out.r5.cell 0
    have f0 := H3.out.r5.thawed 0
    have d1 := H3.out.r5.cell 1
    have f1 := H3.out.r5.thawed 1
    have d2 := H3.out.r5.cell 2
    have f2 := H3.out.r5.thawed 2
    have d3 := H3.out.r5.cell 3
    have f3 := H3.out.r5.thawed 3
    simp at y0 y1 y2 y3 y4 y5 y6 z0 q0 d0 d1 d2 d3

    have CGA := Lib.hid (CG.out w3 H3.out.tu)
    obtain ⟨fo, hfo⟩ : ∃ b, (getL M k).isSome = b := ⟨_, rfl⟩
    obtain ⟨vo, hvo⟩ : ∃ b, (getL M k).getD ⟨#[]⟩ = b := ⟨_, rfl⟩
    rw [hfo, hvo] at CGA
    have HGA : Hid (gans (getL M k) = ⟨0, fo, ⟨#[]⟩, vo⟩ ∧ (getL M k).isSome = fo ∧ (getL M k).getD ⟨#[]⟩ = vo) := Lib.hid ⟨by unfold gans; rw [hfo, hvo], hfo, hvo⟩
    clear hfo hvo CG
    go_upto_region 6 with (go_at_call 76; refine CGA.out.mono ?_; rintro e w4 ⟨rfl, ht⟩; have H4 := Lib.hid (H3.out.no ht); clear ht)
    have tn : Turn No w4 (w4.alloc (.cells #[.int .i64 0, .bool fo, .string ⟨#[]⟩, .string vo] 38)) := (Turn.refl _ _).alloc _
    have HV : Hid (Dr Z w (w4.alloc (.cells #[.int .i64 0, .bool fo, .string ⟨#[]⟩, .string vo] 38)) g2 g3 g4 g5 #[.int .u8 kind, .string k, .string v, .string o, .bool had, .bool aft, .slice A3 ws.length cap3] (.slice A R.length cap) R R.length A cap ∧ At (w4.alloc (.cells #[.int .i64 0, .bool fo, .string ⟨#[]⟩, .string vo] 38)) w4.heap.size (.cells #[.int .i64 0, .bool fo, .string ⟨#[]⟩, .string vo] 38 (0, 0)) ∧ g5 < w4.heap.size) := Lib.hid ⟨H4.out.no tn, At.new _ _, H4.out.r5.lt⟩
    clear H3 H4 CGA tn y0 y1 y2 y3 y4 y5 y6 z0 zf q0 qf d0 d1 d2 d3 f0 f1 f2 f3
    generalize w4.alloc (.cells #[.int .i64 0, .bool fo, .string ⟨#[]⟩, .string vo] 38) = w5 at HV ⊢
    generalize w4.heap.size = g9 at HV ⊢
    have HS := Lib.hid HV.out.1
    have H9 := Lib.hid HV.out.2.1
    have m92 : ¬ g9 = g2 := by have a1 := HV.out.2.2; have a2 := HS.out.l3; have a3 := HS.out.l4; have a4 := HS.out.l5; omega
    have m94 : ¬ g9 = g4 := by have a1 := HV.out.2.2; have a2 := HS.out.l3; have a3 := HS.out.l4; have a4 := HS.out.l5; omega
    have m49 : ¬ g4 = g9 := by omega
    have m29 : ¬ g2 = g9 := by omega
    have m45 : ¬ g4 = g5 := by have a4 := HS.out.l5; omega
    have m54 : ¬ g5 = g4 := by omega
    have m24 : ¬ g2 = g4 := by have a2 := HS.out.l3; have a3 := HS.out.l4; omega
    have m42 : ¬ g4 = g2 := by omega
    have m25 : ¬ g2 = g5 := by have a2 := HS.out.l3; have a3 := HS.out.l4; have a4 := HS.out.l5; omega
    have m52 : ¬ g5 = g2 := by omega
    have m95 : ¬ g9 = g5 := by have a1 := HV.out.2.2; omega
    have m59 : ¬ g5 = g9 := by omega
    have m39 : ¬ g3 = g9 := by have a1 := HV.out.2.2; have a3 := HS.out.l4; have a4 := HS.out.l5; omega
    have m34 : ¬ g3 = g4 := by have a3 := HS.out.l4; omega
    have m35 : ¬ g3 = g5 := by have a3 := HS.out.l4; have a4 := HS.out.l5; omega
    have m32 : ¬ g3 = g2 := by have a2 := HS.out.l3; omega
    have HG59 := Lib.hid (Nat.le_of_lt HV.out.2.2)
    clear HV
    exfalso
    have := HE.out
    unfold refO at this
    simp [HQ.out.1, HQ.out.2.1, HQ.out.2.2.1, HQ.out.2.2.2.1, HQ.out.2.2.2.2.1, HQ.out.2.2.2.2.2] at this
  · have HE : Hid (refO kind k v o had ws = ev ∧ ev ≠ 0) := Lib.hid ⟨hev, he⟩
    have hq : (ev == 0) = false := by simpa using he
    have m45 : ¬ g4 = g5 := by have a4 := H3.out.l5; omega
    have m54 : ¬ g5 = g4 := by omega
    have hq2 : (ev != 0) = true := by simpa using he
    have y0 := H3.out.bo.cell 0
    have y1 := H3.out.bo.cell 1
    have y2 := H3.out.bo.cell 2
    have y3 := H3.out.bo.cell 3
    have y4 := H3.out.bo.cell 4
    have y5 := H3.out.bo.cell 5
    have y6 := H3.out.bo.cell 6
    have z0 := H3.out.bm.cell 0
    have zf := H3.out.bm.thawed 0
    have q0 := H3.out.r4.cell 0
    have qf := H3.out.r4.thawed 0
    have d0 := H3.out.r5.cell 0
    have f0 := H3.out.r5.thawed 0
    have d1 := H3.out.r5.cell 1
    have f1 := H3.out.r5.thawed 1
    have d2 := H3.out.r5.cell 2
    have f2 := H3.out.r5.thawed 2
    have d3 := H3.out.r5.cell 3
    have f3 := H3.out.r5.thawed 3
    simp at y0 y1 y2 y3 y4 y5 y6 z0 q0 d0 d1 d2 d3

    go_wp2_with fail
    all_goals (try simp only [Exit.inBlock, Exit.then])
    all_goals first
      | (refine bodyPost_ret (results_cells2 rfl _ _ g4 g5 60 38 _ _ (0, 0) (0, 0) _ _ (by rfl) (by rfl) (H3.out.finA (H3.out.row) (H3.out.old) (rfl) ⟨ev, false, ⟨#[]⟩, ⟨#[]⟩⟩).a4 (H3.out.finA (H3.out.row) (H3.out.old) (rfl) ⟨ev, false, ⟨#[]⟩, ⟨#[]⟩⟩).a5 Try.underlying60 (by kernel_rfl) Try.underlying38 (by kernel_rfl)) rfl ?_; exact (H3.out.finA (H3.out.row) (H3.out.old) (rfl) ⟨ev, false, ⟨#[]⟩, ⟨#[]⟩⟩).rdo (by rw [← HLD.out.1, doR.eq_1, if_neg (by rw [HE.out.1]; exact HE.out.2)]) (by rw [← HLD.out.2, doA.eq_1, if_neg (by rw [HE.out.1]; exact HE.out.2), HE.out.1]))
      | (refine bodyPost_ret (results_cells2 rfl _ _ g4 g5 60 38 _ _ (0, 0) (0, 0) _ _ (by rfl) (by rfl) (H3.out.finB (H3.out.row) (H3.out.old) (rfl) ⟨ev, false, ⟨#[]⟩, ⟨#[]⟩⟩).a4 (H3.out.finB (H3.out.row) (H3.out.old) (rfl) ⟨ev, false, ⟨#[]⟩, ⟨#[]⟩⟩).a5 Try.underlying60 (by kernel_rfl) Try.underlying38 (by kernel_rfl)) rfl ?_; exact (H3.out.finB (H3.out.row) (H3.out.old) (rfl) ⟨ev, false, ⟨#[]⟩, ⟨#[]⟩⟩).rdo (by rw [← HLD.out.1, doR.eq_1, if_neg (by rw [HE.out.1]; exact HE.out.2)]) (by rw [← HLD.out.2, doA.eq_1, if_neg (by rw [HE.out.1]; exact HE.out.2), HE.out.1]))
theorem rdo_any (R M : List Pr) (A : Option Addr) (cap : Nat) (kind : Int) (k v o : ByteArray) (had aft : Bool) (A3 : Option Addr) (cap3 : Nat) (ws : List Wr) (w : World) {Z : Nat} (hZ : Z ≤ w.heap.size) (hR : w.ownsRow Z 47 2 (.slice A R.length cap) R.length (pcs R)) (hl : R.length + ws.length ≤ 40000)
    (hfit : ∀ p ∈ R, Fit p.k ∧ Fit p.v) (hs : Sim R M) (ha : Asc M) (hrow : Row w A3 (wcs ws)) (hf : Fit k ∧ Fit v ∧ Fit o) (hfw : ∀ x ∈ ws, Fit x.k ∧ Fit x.v) :
    Calls Try.prog 36 #[.agg #[.slice A R.length cap], .agg #[.int .u8 kind, .string k, .string v, .string o, .bool had, .bool aft, .slice A3 ws.length cap3]] w (RDo Z w (.slice A R.length cap) (doR R kind k v o had aft ws) (doA M kind k v o had aft ws)) := by
  by_cases q1 : kind = 1
  · exact rdo_1 R M A cap kind k v o had aft A3 cap3 ws w hZ hR hl hfit hs ha hrow hf hfw q1
  by_cases q2 : kind = 2
  · exact rdo_2 R M A cap kind k v o had aft A3 cap3 ws w hZ hR hl hfit hs ha hrow hf hfw q2
  by_cases q3 : kind = 3
  · exact rdo_3 R M A cap kind k v o had aft A3 cap3 ws w hZ hR hl hfit hs ha hrow hf hfw q3
  by_cases q4 : kind = 4
  · exact rdo_4 R M A cap kind k v o had aft A3 cap3 ws w hZ hR hl hfit hs ha hrow hf hfw q4
  by_cases q5 : kind = 5
  · exact rdo_5 R M A cap kind k v o had aft A3 cap3 ws w hZ hR hl hfit hs ha hrow hf hfw q5
  by_cases q6 : kind = 6
  · exact rdo_6 R M A cap kind k v o had aft A3 cap3 ws w hZ hR hl hfit hs ha hrow hf hfw q6
  exact rdo_0 R M A cap kind k v o had aft A3 cap3 ws w hZ hR hl hfit hs ha hrow hf hfw ⟨q1, q2, q3, q4, q5, q6⟩
end Go.Proofs.Ytllppkfeiifklaa
