/-
  The document's Do: operations of kind 4.
-/
import Derived.Test.YtllppkfeiifklaaJ18
namespace Go.Proofs.Ytllppkfeiifklaa
open Go.RowKit Go.Lib
set_option linter.unusedVariables false
set_option maxRecDepth 20000
set_option linter.unusedSimpArgs false

set_option maxRecDepth 100000 in
set_option maxHeartbeats 16000000 in
theorem rdo_4 (R M : List Pr) (A : Option Addr) (cap : Nat) (kind : Int) (k v o : ByteArray) (had aft : Bool) (A3 : Option Addr) (cap3 : Nat) (ws : List Wr) (w : World) {Z : Nat} (hZ : Z ≤ w.heap.size) (hR : w.ownsRow Z 47 2 (.slice A R.length cap) R.length (pcs R)) (hl : R.length + ws.length ≤ 40000)
    (hfit : ∀ p ∈ R, Fit p.k ∧ Fit p.v) (hs : Sim R M) (ha : Asc M) (hrow : Row w A3 (wcs ws)) (hf : Fit k ∧ Fit v ∧ Fit o) (hfw : ∀ x ∈ ws, Fit x.k ∧ Fit x.v) (hq : kind = 4) :
    Calls Try.prog 36 #[.agg #[.slice A R.length cap], .agg #[.int .u8 kind, .string k, .string v, .string o, .bool had, .bool aft, .slice A3 ws.length cap3]] w (RDo Z w (.slice A R.length cap) (doR R kind k v o had aft ws) (doA M kind k v o had aft ws)) := by
  obtain ⟨DA, hDA⟩ : ∃ a, doA M kind k v o had aft ws = a := ⟨_, rfl⟩
  obtain ⟨DR, hDR⟩ : ∃ a, doR R kind k v o had aft ws = a := ⟨_, rfl⟩
  have HLD := Lib.hid (And.intro hDR hDA)
  rw [hDA, hDR]
  clear hDA hDR
  have HS : Hid (Dr Z w ((((w.alloc (.cells #[.slice A R.length cap] 60)).alloc (.cells #[.int .u8 kind, .string k, .string v, .string o, .bool had, .bool aft, .slice A3 ws.length cap3] 34)).alloc (.cells #[.slice none 0 0] 60)).alloc (.cells #[.int .i64 0, .bool false, .string ⟨#[]⟩, .string ⟨#[]⟩] 38)) w.heap.size (w.heap.size + 1) (w.heap.size + 2) (w.heap.size + 3) #[.int .u8 kind, .string k, .string v, .string o, .bool had, .bool aft, .slice A3 ws.length cap3] (.slice A R.length cap) R R.length A cap) := Lib.hid (by
    have t1 : Turn No w (w.alloc (.cells #[.slice A R.length cap] 60)) := (Turn.refl _ _).alloc _
    have t2 : Turn No (w.alloc (.cells #[.slice A R.length cap] 60)) ((w.alloc (.cells #[.slice A R.length cap] 60)).alloc (.cells #[.int .u8 kind, .string k, .string v, .string o, .bool had, .bool aft, .slice A3 ws.length cap3] 34)) := (Turn.refl _ _).alloc _
    have t3 : Turn No ((w.alloc (.cells #[.slice A R.length cap] 60)).alloc (.cells #[.int .u8 kind, .string k, .string v, .string o, .bool had, .bool aft, .slice A3 ws.length cap3] 34)) (((w.alloc (.cells #[.slice A R.length cap] 60)).alloc (.cells #[.int .u8 kind, .string k, .string v, .string o, .bool had, .bool aft, .slice A3 ws.length cap3] 34)).alloc (.cells #[.slice none 0 0] 60)) := (Turn.refl _ _).alloc _
    have t4 : Turn No (((w.alloc (.cells #[.slice A R.length cap] 60)).alloc (.cells #[.int .u8 kind, .string k, .string v, .string o, .bool had, .bool aft, .slice A3 ws.length cap3] 34)).alloc (.cells #[.slice none 0 0] 60)) ((((w.alloc (.cells #[.slice A R.length cap] 60)).alloc (.cells #[.int .u8 kind, .string k, .string v, .string o, .bool had, .bool aft, .slice A3 ws.length cap3] 34)).alloc (.cells #[.slice none 0 0] 60)).alloc (.cells #[.int .i64 0, .bool false, .string ⟨#[]⟩, .string ⟨#[]⟩] 38)) := (Turn.refl _ _).alloc _
    refine ⟨((t1.trans t2).trans t3).trans t4, (((At.new _ _).no t2).no t3).no t4, ((At.new2 _ _ _).no t3).no t4, ?_, ?_, own_grown hR (((t1.trans t2).trans t3).trans t4) (fun _ _ h => h), fun k hk => Or.inl hk, by omega, by omega, by omega, by omega, rfl, hZ⟩
    · exact (by simpa using At.new ((w.alloc (.cells #[.slice A R.length cap] 60)).alloc (.cells #[.int .u8 kind, .string k, .string v, .string o, .bool had, .bool aft, .slice A3 ws.length cap3] 34)) (.cells #[.slice none 0 0] 60) : At (((w.alloc (.cells #[.slice A R.length cap] 60)).alloc (.cells #[.int .u8 kind, .string k, .string v, .string o, .bool had, .bool aft, .slice A3 ws.length cap3] 34)).alloc (.cells #[.slice none 0 0] 60)) (w.heap.size + 2) (.cells #[.slice none 0 0] 60 (0, 0))).no t4
    · simpa using At.new (((w.alloc (.cells #[.slice A R.length cap] 60)).alloc (.cells #[.int .u8 kind, .string k, .string v, .string o, .bool had, .bool aft, .slice A3 ws.length cap3] 34)).alloc (.cells #[.slice none 0 0] 60)) (.cells #[.int .i64 0, .bool false, .string ⟨#[]⟩, .string ⟨#[]⟩] 38))
  have CR := Lib.hid fun (W : World) (t : Turn No w W) => rrefused_any kind k v o had aft A3 cap3 ws W (hrow.no t) hf.1 hf.2.1 hf.2.2 hfw (by omega)
  have CG := Lib.hid fun (W : World) (t : Turn No w W) => rget_any R A cap k W ((row_of_own hR).no t) (by omega)
  rw [hs.get] at CG
  have HIN := Lib.hid (And.intro hR (And.intro hl (And.intro hfit (And.intro hs (And.intro ha (And.intro hrow (And.intro hf hfw)))))))
  have hwn : ws.length ≤ 40000 := by omega
  clear hZ hR hl hfit hs ha hrow hf hfw
  have HQ := Lib.hid hq
  clear hq
  obtain ⟨ev, hev⟩ : ∃ e, refO kind k v o had ws = e := ⟨_, rfl⟩
  rw [hev] at CR
  go_enter Try.func36, Try.ntmps36
  go_upto_region 1 with fail
  generalize ((((w.alloc (.cells #[.slice A R.length cap] 60)).alloc (.cells #[.int .u8 kind, .string k, .string v, .string o, .bool had, .bool aft, .slice A3 ws.length cap3] 34)).alloc (.cells #[.slice none 0 0] 60)).alloc (.cells #[.int .i64 0, .bool false, .string ⟨#[]⟩, .string ⟨#[]⟩] 38)) = w1 at HS ⊢
  obtain ⟨g2, hg2⟩ : ∃ g, w.heap.size = g := ⟨_, rfl⟩
  rw [hg2] at HS ⊢
  clear hg2
  obtain ⟨g3, hg3⟩ : ∃ g, g2 + 1 = g := ⟨_, rfl⟩
  obtain ⟨g4, hg4⟩ : ∃ g, g2 + 2 = g := ⟨_, rfl⟩
  obtain ⟨g5, hg5⟩ : ∃ g, g2 + 3 = g := ⟨_, rfl⟩
  rw [hg3, hg4, hg5] at HS
  (try rw [hg3]); (try rw [hg4]); (try rw [hg5]); (try rw [show g2 + 1 + 1 = g4 from hg4]); (try rw [show g2 + 1 + 1 + 1 = g5 from hg5]); (try rw [show g3 + 1 = g4 by omega]); (try rw [show g4 + 1 = g5 by omega]); (try rw [show g3 + 1 + 1 = g5 by omega])
  clear hg3 hg4 hg5
  have y0 := HS.out.bo.cell 0
  have y1 := HS.out.bo.cell 1
  have y2 := HS.out.bo.cell 2
  have y3 := HS.out.bo.cell 3
  have y4 := HS.out.bo.cell 4
  have y5 := HS.out.bo.cell 5
  have y6 := HS.out.bo.cell 6
  have z0 := HS.out.bm.cell 0
  have zf := HS.out.bm.thawed 0
  have q0 := HS.out.r4.cell 0
  have qf := HS.out.r4.thawed 0
  have d0 := HS.out.r5.cell 0
  have f0 := HS.out.r5.thawed 0
  have d1 := HS.out.r5.cell 1
  have f1 := HS.out.r5.thawed 1
  have d2 := HS.out.r5.cell 2
  have f2 := HS.out.r5.thawed 2
  have d3 := HS.out.r5.cell 3
  have f3 := HS.out.r5.thawed 3
  simp at y0 y1 y2 y3 y4 y5 y6 z0 q0 d0 d1 d2 d3

  go_upto_region 2 with (go_at_call 75; refine (CR.out _ HS.out.tu).mono ?_; rintro e w3 ⟨rfl, ht⟩; have H3 := Lib.hid (HS.out.no ht); clear ht)
  clear CR HS y0 y1 y2 y3 y4 y5 y6 z0 zf q0 qf d0 d1 d2 d3 f0 f1 f2 f3
  by_cases he : ev = 0
  · have HE : Hid (refO kind k v o had ws = 0) := Lib.hid (hev.trans he)
    subst he
    clear hev
    have y0 := H3.out.bo.cell 0
    have y1 := H3.out.bo.cell 1
    have y2 := H3.out.bo.cell 2
    have y3 := H3.out.bo.cell 3
    have y4 := H3.out.bo.cell 4
    have y5 := H3.out.bo.cell 5
    have y6 := H3.out.bo.cell 6
    have z0 := H3.out.bm.cell 0
    have zf := H3.out.bm.thawed 0
    have q0 := H3.out.r4.cell 0
    have qf := H3.out.r4.thawed 0
    have d0 := H3.out.r5.cell 0
    have f0 := H3.out.r5.thawed 0
    have d1 := H3.out.r5.cell 1
    have f1 := H3.out.r5.thawed 1
    have d2 := H3.out.r5.cell 2
    have f2 := H3.out.r5.thawed 2
    have d3 := H3.out.r5.cell 3
    have f3 := H3.out.r5.thawed 3
    simp at y0 y1 y2 y3 y4 y5 y6 z0 q0 d0 d1 d2 d3

    have CGA := Lib.hid (CG.out w3 H3.out.tu)
    obtain ⟨fo, hfo⟩ : ∃ b, (getL M k).isSome = b := ⟨_, rfl⟩
    obtain ⟨vo, hvo⟩ : ∃ b, (getL M k).getD ⟨#[]⟩ = b := ⟨_, rfl⟩
    rw [hfo, hvo] at CGA
    have HGA : Hid (gans (getL M k) = ⟨0, fo, ⟨#[]⟩, vo⟩ ∧ (getL M k).isSome = fo ∧ (getL M k).getD ⟨#[]⟩ = vo) := Lib.hid ⟨by unfold gans; rw [hfo, hvo], hfo, hvo⟩
    clear hfo hvo CG
    go_upto_region 6 with (go_at_call 76; refine CGA.out.mono ?_; rintro e w4 ⟨rfl, ht⟩; have H4 := Lib.hid (H3.out.no ht); clear ht)
    have tn : Turn No w4 (w4.alloc (.cells #[.int .i64 0, .bool fo, .string ⟨#[]⟩, .string vo] 38)) := (Turn.refl _ _).alloc _
    have HV : Hid (Dr Z w (w4.alloc (.cells #[.int .i64 0, .bool fo, .string ⟨#[]⟩, .string vo] 38)) g2 g3 g4 g5 #[.int .u8 kind, .string k, .string v, .string o, .bool had, .bool aft, .slice A3 ws.length cap3] (.slice A R.length cap) R R.length A cap ∧ At (w4.alloc (.cells #[.int .i64 0, .bool fo, .string ⟨#[]⟩, .string vo] 38)) w4.heap.size (.cells #[.int .i64 0, .bool fo, .string ⟨#[]⟩, .string vo] 38 (0, 0)) ∧ g5 < w4.heap.size) := Lib.hid ⟨H4.out.no tn, At.new _ _, H4.out.r5.lt⟩
    clear H3 H4 CGA tn y0 y1 y2 y3 y4 y5 y6 z0 zf q0 qf d0 d1 d2 d3 f0 f1 f2 f3
    generalize w4.alloc (.cells #[.int .i64 0, .bool fo, .string ⟨#[]⟩, .string vo] 38) = w5 at HV ⊢
    generalize w4.heap.size = g9 at HV ⊢
    have HS := Lib.hid HV.out.1
    have H9 := Lib.hid HV.out.2.1
    have m92 : ¬ g9 = g2 := by have a1 := HV.out.2.2; have a2 := HS.out.l3; have a3 := HS.out.l4; have a4 := HS.out.l5; omega
    have m94 : ¬ g9 = g4 := by have a1 := HV.out.2.2; have a2 := HS.out.l3; have a3 := HS.out.l4; have a4 := HS.out.l5; omega
    have m49 : ¬ g4 = g9 := by omega
    have m29 : ¬ g2 = g9 := by omega
    have m45 : ¬ g4 = g5 := by have a4 := HS.out.l5; omega
    have m54 : ¬ g5 = g4 := by omega
    have m24 : ¬ g2 = g4 := by have a2 := HS.out.l3; have a3 := HS.out.l4; omega
    have m42 : ¬ g4 = g2 := by omega
    have m25 : ¬ g2 = g5 := by have a2 := HS.out.l3; have a3 := HS.out.l4; have a4 := HS.out.l5; omega
    have m52 : ¬ g5 = g2 := by omega
    have m95 : ¬ g9 = g5 := by have a1 := HV.out.2.2; omega
    have m59 : ¬ g5 = g9 := by omega
    have m39 : ¬ g3 = g9 := by have a1 := HV.out.2.2; have a3 := HS.out.l4; have a4 := HS.out.l5; omega
    have m34 : ¬ g3 = g4 := by have a3 := HS.out.l4; omega
    have m35 : ¬ g3 = g5 := by have a3 := HS.out.l4; have a4 := HS.out.l5; omega
    have m32 : ¬ g3 = g2 := by have a2 := HS.out.l3; omega
    have HG59 := Lib.hid (Nat.le_of_lt HV.out.2.2)
    clear HV
    have q4 := HQ.out
    subst q4
    have y0 := HS.out.bo.cell 0
    have y1 := HS.out.bo.cell 1
    have y2 := HS.out.bo.cell 2
    have y3 := HS.out.bo.cell 3
    have y4 := HS.out.bo.cell 4
    have y5 := HS.out.bo.cell 5
    have y6 := HS.out.bo.cell 6
    have z0 := HS.out.bm.cell 0
    have zf := HS.out.bm.thawed 0
    have q0 := HS.out.r4.cell 0
    have qf := HS.out.r4.thawed 0
    have d0 := HS.out.r5.cell 0
    have f0 := HS.out.r5.thawed 0
    have d1 := HS.out.r5.cell 1
    have f1 := HS.out.r5.thawed 1
    have d2 := HS.out.r5.cell 2
    have f2 := HS.out.r5.thawed 2
    have d3 := HS.out.r5.cell 3
    have f3 := HS.out.r5.thawed 3
    simp at y0 y1 y2 y3 y4 y5 y6 z0 q0 d0 d1 d2 d3
    have e0 := H9.out.cell 0
    have e1 := H9.out.cell 1
    have e2 := H9.out.cell 2
    have e3 := H9.out.cell 3
    have h0 := H9.out.thawed 0
    have h1 := H9.out.thawed 1
    have h2 := H9.out.thawed 2
    have h3 := H9.out.thawed 3
    simp at e0 e1 e2 e3
    have HSW : Hid (swD R k o had = swD M k o had) := Lib.hid (HIN.out.2.2.2.1.swD k o had)
    have HG5 := Lib.hid (show g5 < g9 by have := H9.out.lt; have a5 := HS.out.l5; exact Nat.lt_of_le_of_ne HG59.out m59)
    go_upto_region 15 with fail
    have HS6 := Lib.hid (HS.out.set9 H9.out HG5.out 1 (.bool false))
    have H96 : Hid (At (w5.setCell ⟨g9, 1, none⟩ (.bool false)) g9 (.cells #[.int .i64 0, .bool false, .string ⟨#[]⟩, .string vo] 38 (0, 0))) := Lib.hid (by simpa using H9.out.set 1 (.bool false))
    clear HS H9 y0 y1 y2 y3 y4 y5 y6 z0 zf q0 qf d0 d1 d2 d3 f0 f1 f2 f3 e0 e1 e2 e3 h0 h1 h2 h3
    generalize w5.setCell ⟨g9, 1, none⟩ (.bool false) = w6 at HS6 H96 ⊢
    have y0 := HS6.out.bo.cell 0
    have y1 := HS6.out.bo.cell 1
    have y2 := HS6.out.bo.cell 2
    have y3 := HS6.out.bo.cell 3
    have y4 := HS6.out.bo.cell 4
    have y5 := HS6.out.bo.cell 5
    have y6 := HS6.out.bo.cell 6
    have z0 := HS6.out.bm.cell 0
    have zf := HS6.out.bm.thawed 0
    have q0 := HS6.out.r4.cell 0
    have qf := HS6.out.r4.thawed 0
    have d0 := HS6.out.r5.cell 0
    have f0 := HS6.out.r5.thawed 0
    have d1 := HS6.out.r5.cell 1
    have f1 := HS6.out.r5.thawed 1
    have d2 := HS6.out.r5.cell 2
    have f2 := HS6.out.r5.thawed 2
    have d3 := HS6.out.r5.cell 3
    have f3 := HS6.out.r5.thawed 3
    simp at y0 y1 y2 y3 y4 y5 y6 z0 q0 d0 d1 d2 d3
    have e0 := H96.out.cell 0
    have e1 := H96.out.cell 1
    have e2 := H96.out.cell 2
    have e3 := H96.out.cell 3
    have h0 := H96.out.thawed 0
    have h1 := H96.out.thawed 1
    have h2 := H96.out.thawed 2
    have h3 := H96.out.thawed 3
    simp at e0 e1 e2 e3
    obtain ⟨sd, hsd⟩ : ∃ b, swD M k o had = b := ⟨_, rfl⟩
    have HSD := Lib.hid hsd
    go_cut [73] from 54 to 74 (fun s wx => s = .bool sd ∧ Hid (wx = w6))
    case first =>
      clear hsd
      cases had with
      | false =>
        cases fo with
        | false =>
          obtain rfl : sd = true := by rw [← HSD.out]; simp [swD, HGA.out.2.1]
          go_wp2_with fail
          go_meet
          exact ⟨by first | rfl | trivial | simp, Lib.hid rfl⟩
        | true =>
          obtain rfl : sd = false := by rw [← HSD.out]; simp [swD, HGA.out.2.1]
          go_wp2_with fail
          go_meet
          exact ⟨by first | rfl | trivial | simp, Lib.hid rfl⟩
      | true =>
        cases fo with
        | false =>
          obtain rfl : sd = false := by rw [← HSD.out]; simp [swD, HGA.out.2.1]
          go_wp2_with fail
          go_meet
          exact ⟨by first | rfl | trivial | simp, Lib.hid rfl⟩
        | true =>
          have qe := bytes_beq vo o
          by_cases hvo : vo = o
          · rw [decide_eq_true hvo] at qe
            have HVO := Lib.hid hvo
            clear hvo
            obtain rfl : sd = true := by rw [← HSD.out]; simp [swD, HGA.out.2.1, HGA.out.2.2, HVO.out]
            go_wp2_with fail
            go_meet
            exact ⟨by first | rfl | trivial | simp, Lib.hid rfl⟩
          · rw [decide_eq_false hvo] at qe
            have HVO := Lib.hid hvo
            clear hvo
            obtain rfl : sd = false := by rw [← HSD.out]; simp [swD, HGA.out.2.1, HGA.out.2.2, HVO.out]
            go_wp2_with fail
            go_meet
            exact ⟨by first | rfl | trivial | simp, Lib.hid rfl⟩
    case rest =>
      obtain ⟨rfl, HW6⟩ := hcut
      obtain rfl := HW6.out
      clear hsd HW6
      go_upto_if 73 with fail
      obtain ⟨R2, hR2⟩ : ∃ x, (if sd = true then withL R k v else R) = x := ⟨_, rfl⟩
      have HR2 := Lib.hid hR2
      clear hR2
      go_cut [] from 74 to 81 (fun wx => ∃ m B c, Hid (Dr Z w wx g2 g3 g4 g5 #[.int .u8 4, .string k, .string v, .string o, .bool had, .bool aft, .slice A3 ws.length cap3] (.slice A R.length cap) R2 m B c ∧ At wx g9 (.cells #[.int .i64 0, .bool sd, .string ⟨#[]⟩, .string vo] 38 (0, 0))))
      case first =>
        cases sd with
        | false =>
          have hr2 : R2 = R := by rw [← HR2.out]; simp
          go_wp2_with fail
          go_meet
          exact ⟨_, _, _, Lib.hid ⟨by rw [hr2]; exact HS6.out, H96.out⟩⟩
        | true =>
          have hr2 : withL R k v = R2 := by rw [← HR2.out]; simp
          have HS7 := Lib.hid (HS6.out.set9 H96.out HG5.out 1 (.bool true))
          have H97 : Hid (At (wc.setCell ⟨g9, 1, none⟩ (.bool true)) g9 (.cells #[.int .i64 0, .bool true, .string ⟨#[]⟩, .string vo] 38 (0, 0))) := Lib.hid (by simpa using H96.out.set 1 (.bool true))
          have CC := Lib.hid fun (W : World) (h : W.ownsRow Z 47 2 (.slice A R.length cap) R.length (pcs R)) => with_any R A cap k v W (row_of_own h) (by have := HIN.out.2.1; omega)
          rw [hr2] at CC
          clear hr2
          go_upto_region 17 with fail
          clear HS6 H96 y0 y1 y2 y3 y4 y5 y6 z0 zf q0 qf d0 d1 d2 d3 f0 f1 f2 f3 e0 e1 e2 e3 h0 h1 h2 h3
          generalize wc.setCell ⟨g9, 1, none⟩ (.bool true) = w7 at HS7 H97 ⊢
          have y0 := HS7.out.bo.cell 0
          have y1 := HS7.out.bo.cell 1
          have y2 := HS7.out.bo.cell 2
          have y3 := HS7.out.bo.cell 3
          have y4 := HS7.out.bo.cell 4
          have y5 := HS7.out.bo.cell 5
          have y6 := HS7.out.bo.cell 6
          have z0 := HS7.out.bm.cell 0
          have zf := HS7.out.bm.thawed 0
          have q0 := HS7.out.r4.cell 0
          have qf := HS7.out.r4.thawed 0
          have d0 := HS7.out.r5.cell 0
          have f0 := HS7.out.r5.thawed 0
          have d1 := HS7.out.r5.cell 1
          have f1 := HS7.out.r5.thawed 1
          have d2 := HS7.out.r5.cell 2
          have f2 := HS7.out.r5.thawed 2
          have d3 := HS7.out.r5.cell 3
          have f3 := HS7.out.r5.thawed 3
          simp at y0 y1 y2 y3 y4 y5 y6 z0 q0 d0 d1 d2 d3
          go_wp2_with (go_at_call 72; (with_reducible refine (CC.out _ HS7.out.row).mono ?_); rintro e w8 ⟨B2, c2, rfl, ho, ht⟩; have HS8 := Lib.hid (HS7.out.step ht ho); have HB8 := Lib.hid (HS7.out.bm.no ht); have H98 := Lib.hid ((H97.out.no ht).turn (Turn.set1 w8 g2 0 (.slice B2 R2.length c2)) m92); clear ho ht; have z0 := HB8.out.cell 0; have zf := HB8.out.thawed 0; simp at z0)
          go_meet
          exact ⟨_, _, _, Lib.hid ⟨HS8.out, H98.out⟩⟩
      case rest =>
        obtain ⟨m, B, c, HC⟩ := hcut
        have HS8 := Lib.hid HC.out.1
        have H98 := Lib.hid HC.out.2
        clear HS6 H96 HC y0 y1 y2 y3 y4 y5 y6 z0 zf q0 qf d0 d1 d2 d3 f0 f1 f2 f3 e0 e1 e2 e3 h0 h1 h2 h3
        generalize wc = w9 at HS8 H98 ⊢
        have y0 := HS8.out.bo.cell 0
        have y1 := HS8.out.bo.cell 1
        have y2 := HS8.out.bo.cell 2
        have y3 := HS8.out.bo.cell 3
        have y4 := HS8.out.bo.cell 4
        have y5 := HS8.out.bo.cell 5
        have y6 := HS8.out.bo.cell 6
        have z0 := HS8.out.bm.cell 0
        have zf := HS8.out.bm.thawed 0
        have q0 := HS8.out.r4.cell 0
        have qf := HS8.out.r4.thawed 0
        have d0 := HS8.out.r5.cell 0
        have f0 := HS8.out.r5.thawed 0
        have d1 := HS8.out.r5.cell 1
        have f1 := HS8.out.r5.thawed 1
        have d2 := HS8.out.r5.cell 2
        have f2 := HS8.out.r5.thawed 2
        have d3 := HS8.out.r5.cell 3
        have f3 := HS8.out.r5.thawed 3
        simp at y0 y1 y2 y3 y4 y5 y6 z0 q0 d0 d1 d2 d3
        have e0 := H98.out.cell 0
        have e1 := H98.out.cell 1
        have e2 := H98.out.cell 2
        have e3 := H98.out.cell 3
        have h0 := H98.out.thawed 0
        have h1 := H98.out.thawed 1
        have h2 := H98.out.thawed 2
        have h3 := H98.out.thawed 3
        simp at e0 e1 e2 e3
        have HD := Lib.hid (HS8.out.no ((Turn.refl No w9).drew))
        go_wp2_with fail
        go_region
        all_goals go_wp2_with fail
        all_goals (try simp only [Exit.inBlock, Exit.then])
        all_goals first
          | (refine bodyPost_ret (results_cells2 rfl _ _ g4 g5 60 38 _ _ (0, 0) (0, 0) _ _ (by rfl) (by rfl) (HD.out.finA (HD.out.row) (HD.out.old) (HD.out.hm) ⟨0, sd, ⟨#[]⟩, vo⟩).a4 (HD.out.finA (HD.out.row) (HD.out.old) (HD.out.hm) ⟨0, sd, ⟨#[]⟩, vo⟩).a5 Try.underlying60 (by kernel_rfl) Try.underlying38 (by kernel_rfl)) rfl ?_; exact (HD.out.finA (HD.out.row) (HD.out.old) (HD.out.hm) ⟨0, sd, ⟨#[]⟩, vo⟩).rdo (by rw [← HLD.out.1, ← HR2.out]; simp [doR, HE.out, HSW.out, HSD.out]) (by rw [← HLD.out.2]; simp [doA, HE.out, HSD.out, HGA.out.2.2]))
          | (refine bodyPost_ret (results_cells2 rfl _ _ g4 g5 60 38 _ _ (0, 0) (0, 0) _ _ (by rfl) (by rfl) (HD.out.finB (HD.out.row) (HD.out.old) (HD.out.hm) ⟨0, sd, ⟨#[]⟩, vo⟩).a4 (HD.out.finB (HD.out.row) (HD.out.old) (HD.out.hm) ⟨0, sd, ⟨#[]⟩, vo⟩).a5 Try.underlying60 (by kernel_rfl) Try.underlying38 (by kernel_rfl)) rfl ?_; exact (HD.out.finB (HD.out.row) (HD.out.old) (HD.out.hm) ⟨0, sd, ⟨#[]⟩, vo⟩).rdo (by rw [← HLD.out.1, ← HR2.out]; simp [doR, HE.out, HSW.out, HSD.out]) (by rw [← HLD.out.2]; simp [doA, HE.out, HSD.out, HGA.out.2.2]))
  · have HE : Hid (refO kind k v o had ws = ev ∧ ev ≠ 0) := Lib.hid ⟨hev, he⟩
    have hq : (ev == 0) = false := by simpa using he
    have m45 : ¬ g4 = g5 := by have a4 := H3.out.l5; omega
    have m54 : ¬ g5 = g4 := by omega
    have hq2 : (ev != 0) = true := by simpa using he
    have y0 := H3.out.bo.cell 0
    have y1 := H3.out.bo.cell 1
    have y2 := H3.out.bo.cell 2
    have y3 := H3.out.bo.cell 3
    have y4 := H3.out.bo.cell 4
    have y5 := H3.out.bo.cell 5
    have y6 := H3.out.bo.cell 6
    have z0 := H3.out.bm.cell 0
    have zf := H3.out.bm.thawed 0
    have q0 := H3.out.r4.cell 0
    have qf := H3.out.r4.thawed 0
    have d0 := H3.out.r5.cell 0
    have f0 := H3.out.r5.thawed 0
    have d1 := H3.out.r5.cell 1
    have f1 := H3.out.r5.thawed 1
    have d2 := H3.out.r5.cell 2
    have f2 := H3.out.r5.thawed 2
    have d3 := H3.out.r5.cell 3
    have f3 := H3.out.r5.thawed 3
    simp at y0 y1 y2 y3 y4 y5 y6 z0 q0 d0 d1 d2 d3

    go_wp2_with fail
    all_goals (try simp only [Exit.inBlock, Exit.then])
    all_goals first
      | (refine bodyPost_ret (results_cells2 rfl _ _ g4 g5 60 38 _ _ (0, 0) (0, 0) _ _ (by rfl) (by rfl) (H3.out.finA (H3.out.row) (H3.out.old) (rfl) ⟨ev, false, ⟨#[]⟩, ⟨#[]⟩⟩).a4 (H3.out.finA (H3.out.row) (H3.out.old) (rfl) ⟨ev, false, ⟨#[]⟩, ⟨#[]⟩⟩).a5 Try.underlying60 (by kernel_rfl) Try.underlying38 (by kernel_rfl)) rfl ?_; exact (H3.out.finA (H3.out.row) (H3.out.old) (rfl) ⟨ev, false, ⟨#[]⟩, ⟨#[]⟩⟩).rdo (by rw [← HLD.out.1, doR.eq_1, if_neg (by rw [HE.out.1]; exact HE.out.2)]) (by rw [← HLD.out.2, doA.eq_1, if_neg (by rw [HE.out.1]; exact HE.out.2), HE.out.1]))
      | (refine bodyPost_ret (results_cells2 rfl _ _ g4 g5 60 38 _ _ (0, 0) (0, 0) _ _ (by rfl) (by rfl) (H3.out.finB (H3.out.row) (H3.out.old) (rfl) ⟨ev, false, ⟨#[]⟩, ⟨#[]⟩⟩).a4 (H3.out.finB (H3.out.row) (H3.out.old) (rfl) ⟨ev, false, ⟨#[]⟩, ⟨#[]⟩⟩).a5 Try.underlying60 (by kernel_rfl) Try.underlying38 (by kernel_rfl)) rfl ?_; exact (H3.out.finB (H3.out.row) (H3.out.old) (rfl) ⟨ev, false, ⟨#[]⟩, ⟨#[]⟩⟩).rdo (by rw [← HLD.out.1, doR.eq_1, if_neg (by rw [HE.out.1]; exact HE.out.2)]) (by rw [← HLD.out.2, doA.eq_1, if_neg (by rw [HE.out.1]; exact HE.out.2), HE.out.1]))
end Go.Proofs.Ytllppkfeiifklaa
