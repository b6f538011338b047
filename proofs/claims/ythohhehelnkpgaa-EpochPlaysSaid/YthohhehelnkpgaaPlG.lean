/-
  EpochPlays, walked.
-/
import Derived.Test.YthohhehelnkpgaaPlF
import Derived.Deep.CutBlock
import Derived.Deep.DeepCutAuto
import Derived.Deep.RegionHeld3
import Derived.BigQuiet
namespace Go.Proofs.Ythohhehelnkpgaa
open Go.RowKit Go.Maps Go.IntWalk Go.Lib
set_option linter.unusedVariables false

theorem PlS.start {w w2 : World} {Z : Nat} (he : Ep Z w2 Z Ab.start) (hZ : Z ≤ w2.heap.size) (ht : Turn (fun _ => False) w w2) :
    PlS w ((w2.alloc (.cells #[.slice none 0 0, .slice none 0 0] 35)).alloc (.cells #[.pointer (some ⟨Z, 0, none⟩), .pointer (some ⟨w2.heap.size, 0, none⟩), .slice none 0 0, .slice none 0 0, .int .i64 0, .bool false] 37)) Z (w2.heap.size + 1) w2.heap.size Z 0 := by
  have t1 := (Turn.refl (fun _ => False) w2).alloc (.cells #[.slice none 0 0, .slice none 0 0] 35)
  have a1 := At.new w2 (.cells #[.slice none 0 0, .slice none 0 0] 35)
  have s1 : (w2.alloc (.cells #[.slice none 0 0, .slice none 0 0] 35)).heap.size = w2.heap.size + 1 := by simp
  generalize w2.alloc (.cells #[.slice none 0 0, .slice none 0 0] 35) = x1 at t1 a1 s1 ⊢
  have t2 := (Turn.refl (fun _ => False) x1).alloc (.cells #[.pointer (some ⟨Z, 0, none⟩), .pointer (some ⟨w2.heap.size, 0, none⟩), .slice none 0 0, .slice none 0 0, .int .i64 0, .bool false] 37)
  have a2 := At.new x1 (.cells #[.pointer (some ⟨Z, 0, none⟩), .pointer (some ⟨w2.heap.size, 0, none⟩), .slice none 0 0, .slice none 0 0, .int .i64 0, .bool false] 37)
  rw [s1] at a2
  refine ⟨[], Ab.start, .slice none 0 0, .slice none 0 0, ⟨⟨a2, Nums.nil _ _, ⟨rfl, Or.inl ⟨rfl, rfl⟩⟩, (fun i f hi => by simp [Ab.start] at hi), rfl, by omega, (fun b hb => by cases hb)⟩, ⟨.slice none 0 0, .slice none 0 0, [], a1.turn t2 (fun h => h), Nums.nil _ _, (fun i hi => by cases hi), ⟨rfl, Or.inl ⟨rfl, rfl⟩⟩, rfl, (fun i v hv => by simp at hv), Ab.start_wf, by omega⟩, (he.same t1).same t2⟩, ⟨by simp [Ab.start, Ab.len, pend], by simp [Ab.start], rfl, by omega⟩, rfl, Tn.of_same ((ht.trans t1).trans t2)⟩

set_option maxRecDepth 100000 in
set_option maxHeartbeats 8000000 in
theorem plays_any (len cap : Nat) (A0 : Option Addr) (w : World) (ha : Acts w A0 len ∧ len ≤ maxLen) :
    Calls Try.prog 4 #[.slice A0 len cap] w fun e w' => e = .returned (.bool true) ∧ Below w.heap.size w w' := by
  have hlm := ha.2
  unfold maxLen at hlm
  have AW := Lib.hid (awake_any w)
  have HR := Lib.hid ha.1
  clear ha
  by_cases hlen : 100 < len
  · have g : decide ((100 : Int) < (len : Int)) = true := by simp; omega
    go_enter Try.func4, Try.ntmps4
    go_wp2_with fail
    refine AW.out.mono ?_
    rintro e w1 ⟨rfl, ht1⟩
    have H1 := Lib.hid ht1
    clear ht1
    go_wp2_with fail
    go_ret
    exact ⟨rfl, H1.out.below (Nat.le_refl _) (fun _ _ h => h)⟩
  · have g : decide ((100 : Int) < (len : Int)) = false := by simp; omega
    go_enter Try.func4, Try.ntmps4
    go_wp2_with fail
    refine AW.out.mono ?_
    rintro e w1 ⟨rfl, ht1⟩
    have NW := Lib.hid (new_any (Z := w1.heap.size) w1 (Nat.le_refl _))
    have H1 := Lib.hid ht1
    clear ht1 AW
    go_wp2_with fail
    refine NW.out.mono ?_
    rintro e w2 ⟨rfl, he, ht2⟩
    generalize hZ : w1.heap.size = Z at he
    have hs2 : Z ≤ w2.heap.size := by rw [← hZ]; exact ht2.size
    have HS := Lib.hid (PlS.start he hs2 ht2)
    replace hZ := Lib.hid hZ
    clear he ht2 hs2 NW
    go_wp2_with fail
    generalize (w2.alloc (.cells #[.slice none 0 0, .slice none 0 0] 35)).alloc (.cells #[.pointer (some ⟨Z, 0, none⟩), .pointer (some ⟨w2.heap.size, 0, none⟩), .slice none 0 0, .slice none 0 0, .int .i64 0, .bool false] 37) = w3 at HS ⊢
    generalize w2.heap.size + 1 = xb at HS ⊢
    generalize w2.heap.size = qb at HS ⊢
    go_loopw [4] (fun i wr => ∃ (k : Nat), k ≤ len ∧ i = .int .i64 (k : Int) ∧ Hid (PlS w1 wr Z xb qb Z k)) (fun i _ => len - (intOf i).toNat)
    case atStart => exact ⟨0, Nat.zero_le _, rfl, HS⟩
    case round =>
      obtain ⟨k, hk, rfl, hst0⟩ := hrel
      clear HS
      by_cases hlt : k < len
      · have hkl : (k : Int) < (len : Int) := by omega
        have hk100 : k < 100 := by omega
        obtain ⟨s, E, rv, av, hst⟩ := hst0.out
        obtain ⟨lb, lo, hA, hb, d, t, h3, ht, d0, d1, d2⟩ := (HR.out.turn H1.out (fun _ _ h => h)) k hlt
        subst hA
        have hbk := hst.tn.block lb hb (fun h => by have := h.1; have := hZ.out; omega)
        have hd0 : wr.cell? ⟨lb, lo + k * 3, none⟩ = some (.int .i64 d) := (World.cell?_of_block (w := w1) hbk).trans d0
        have hd1 : wr.cell? ⟨lb, lo + k * 3 + 1, none⟩ = some (.int .i64 t) := (World.cell?_of_block (w := w1) hbk).trans d1
        have hd2 : wr.cell? ⟨lb, lo + k * 3 + 2, none⟩ = some (.int .i64 h3) := (World.cell?_of_block (w := w1) hbk).trans d2
        have HM : Hid (Mid w1 Z xb qb Z wr.heap.size ⟨d, t, h3⟩ s E E rv av (wr.alloc (.cells #[.int .i64 d, .int .i64 t, .int .i64 h3] 39))) :=
          Lib.hid ⟨hst.pl.same ((Turn.refl _ wr).alloc _), At.new wr _, fun e => by have := (own_block hst.pl.r.acts e).2.2; omega, hst.tn.trans (Tn.of_same ((Turn.refl _ wr).alloc _))⟩
        have HB := Lib.hid (And.intro hst.bd hst.coll)
        have HT := Lib.hid ht
        clear d0 d1 d2 hbk hst hst0 ht
        go_upto_block 2 with (fail)
        generalize wr.alloc (.cells #[.int .i64 d, .int .i64 t, .int .i64 h3] 39) = wa at HM ⊢
        generalize wr.heap.size = ab at HM ⊢
        clear hd0 hd1 hd2
        have hb1 := HB.out.1.pot
        have hb2 := HB.out.1.few
        have hgl : E.gone ≤ E.len := Nat.le_add_right _ _
        have few : E.P.length < 100000 := by omega
        have shrt : E.len < 100000 := by omega
        clear hb1 hb2 hgl
        go_cut [2] (fun s wx => ∃ wq : World, wq = wx ∧ Hid (PlS w1 wq Z xb qb Z (k + 1)))
        case first =>
          have hS0 := (HM.out.same ((Turn.refl _ wa).drewN 1)).S
          have hSa := HM.out.S
          by_cases k0 : d = 0
          · subst k0
            obtain ⟨bv, hbv⟩ : ∃ bv, (!(look E.P t).isSome) = bv := ⟨_, rfl⟩
            have C1 : Hid (∀ W, Turn (fun _ => False) wa W → Calls Try.prog 12 #[.pointer (some ⟨Z, 0, none⟩), .int .i64 t] W fun e w' => e = .returned (.bool bv) ∧ Mid w1 Z xb qb Z ab ⟨0, t, h3⟩ s (E.pin t) E rv av w') :=
              Lib.hid fun W hW => by rw [← hbv]; exact (HM.out.same hW).pin HT.out few
            have C2 : Hid (∀ wy W, Mid w1 Z xb qb Z ab ⟨0, t, h3⟩ s (E.pin t) E rv av wy → Turn (fun _ => False) wy W → Calls Try.prog 19 #[.pointer (some ⟨qb, 0, none⟩), .int .i64 t] W fun e w' => e = .returned (.bool bv) ∧ Mid w1 Z xb qb Z ab ⟨0, t, h3⟩ s (E.pin t) (E.pin t) rv av w') :=
              Lib.hid fun wy W hy hW => by rw [← hbv]; exact (hy.same hW).rpin HT.out few
            clear hbv few shrt HM
            go_wp2_with fail
            go_region_held3 (fun W => W.cell? ⟨xb, 0, none⟩ = some (.pointer (some ⟨Z, 0, none⟩)) ∧ W.cell? ⟨xb, 1, none⟩ = some (.pointer (some ⟨qb, 0, none⟩)) ∧ W.cell? ⟨ab, 1, none⟩ = some (.int .i64 t)) (first | exact hS0 | exact hz.out.S | exact hy.out.S) (first | (go_at_call 12; refine (C1.out _ ((Turn.refl _ _).drewN _)).mono ?_; rintro e wy ⟨rfl, hy⟩; replace hy := Lib.hid hy) | (go_at_call 19; refine (C2.out _ _ hy.out (Turn.refl _ _)).mono ?_; rintro e wz ⟨rfl, hz⟩; replace hz := Lib.hid hz))
            all_goals
              go_wp2_with fail
              go_meet
              case rel => exact ⟨_, rfl, hz.out.pinned HB.out.1 HB.out.2 hk100⟩
          by_cases k1 : d = 1
          · subst k1
            obtain ⟨bv, hbv⟩ : ∃ bv, (look E.P t).isSome = bv := ⟨_, rfl⟩
            have C1 : Hid (∀ W, Turn (fun _ => False) wa W → Calls Try.prog 15 #[.pointer (some ⟨Z, 0, none⟩), .int .i64 t] W fun e w' => e = .returned (.bool bv) ∧ Mid w1 Z xb qb Z ab ⟨1, t, h3⟩ s (E.unpin t) E rv av w') :=
              Lib.hid fun W hW => by rw [← hbv]; exact (HM.out.same hW).unpin HT.out
            have C2 : Hid (∀ wy W, Mid w1 Z xb qb Z ab ⟨1, t, h3⟩ s (E.unpin t) E rv av wy → Turn (fun _ => False) wy W → Calls Try.prog 20 #[.pointer (some ⟨qb, 0, none⟩), .int .i64 t] W fun e w' => e = .returned (.bool bv) ∧ Mid w1 Z xb qb Z ab ⟨1, t, h3⟩ s (E.unpin t) (E.unpin t) rv av w') :=
              Lib.hid fun wy W hy hW => by rw [← hbv]; exact (hy.same hW).runpin
            clear hbv few shrt HM
            go_wp2_with fail
            go_region_held3 (fun W => W.cell? ⟨xb, 0, none⟩ = some (.pointer (some ⟨Z, 0, none⟩)) ∧ W.cell? ⟨xb, 1, none⟩ = some (.pointer (some ⟨qb, 0, none⟩)) ∧ W.cell? ⟨ab, 1, none⟩ = some (.int .i64 t)) (first | exact hS0 | exact hz.out.S | exact hy.out.S) (first | (go_at_call 15; refine (C1.out _ ((Turn.refl _ _).drewN _)).mono ?_; rintro e wy ⟨rfl, hy⟩; replace hy := Lib.hid hy) | (go_at_call 20; refine (C2.out _ _ hy.out (Turn.refl _ _)).mono ?_; rintro e wz ⟨rfl, hz⟩; replace hz := Lib.hid hz))
            all_goals
              go_wp2_with fail
              go_meet
              case rel => exact ⟨_, rfl, hz.out.unpinned HB.out.1 HB.out.2 hk100⟩
          have j0 : (d == 0) = false := by simpa using k0
          have j1 : (d == 1) = false := by simpa using k1
          by_cases k2 : d = 2
          · subst k2
            have cx4 := HM.out.pl.r.x.cell 4
            simp at cx4
            have hwf := Lib.hid HM.out.pl.dc.wf
            have C1 : Hid (∀ W, Turn (fun _ => False) wa W → Calls Try.prog 21 #[.pointer (some ⟨qb, 0, none⟩), .int .i64 (E.len : Int)] W fun e w' => e = .returned (.tuple #[]) ∧ Mid w1 Z xb qb Z ab ⟨2, t, h3⟩ s E (E.retire .nilFunc) rv av w') :=
              Lib.hid fun W hW => (HM.out.same hW).rretire shrt
            clear few shrt HM k0 k1
            go_wp2_with fail
            go_region_with (go_at_call 21; refine (C1.out _ ((Turn.refl _ _).drewN _)).mono ?_; rintro e wy ⟨rfl, hy⟩; replace hy := Lib.hid hy)
            all_goals
              have C3 := Lib.hid (hy.out.retired HT.out HB.out.1 hwf.out HB.out.2 hk100)
              have ya0 := hy.out.a_.cell 0
              have ya1 := hy.out.a_.cell 1
              have ya2 := hy.out.a_.cell 2
              simp [acells] at ya0 ya1 ya2
              go_wp2_with fail
              refine C3.out.mono ?_
              rintro e wz ⟨rfl, hz⟩
              replace hz := Lib.hid hz
              go_wp2_with fail
              go_meet
              case rel => exact ⟨_, rfl, hz.out⟩
          have j2 : (d == 2) = false := by simpa using k2
          by_cases k3 : d = 3
          · subst k3
            have C1 := Lib.hid (HM.out.collect HB.out.1 HB.out.2 hk100)
            clear few shrt HM k0 k1 k2
            go_wp2_with fail
            refine C1.out.mono ?_
            rintro e wz ⟨rfl, hz⟩
            replace hz := Lib.hid hz
            go_wp2_with fail
            go_meet
            case rel => exact ⟨_, rfl, hz.out⟩
          have j3 : (d == 3) = false := by simpa using k3
          by_cases k4 : d = 4
          · subst k4
            have C1 := Lib.hid (retire_none Z wa)
            clear few shrt k0 k1 k2 k3
            go_wp2_with fail
            refine C1.out.mono ?_
            rintro e wz ⟨rfl, hz⟩
            subst hz
            have hz := Lib.hid (HM.out.plain HB.out.1 HB.out.2 hk100)
            clear HM C1
            go_wp2_with fail
            go_meet
            case rel => exact ⟨_, rfl, hz.out⟩
          have j4 : (d == 4) = false := by simpa using k4
          have hz := Lib.hid (HM.out.plain HB.out.1 HB.out.2 hk100)
          clear few shrt HM k0 k1 k2 k3 k4
          go_wp2_with fail
          go_meet
          case rel => exact ⟨_, rfl, hz.out⟩
        case rest =>
          obtain ⟨wx, hwx, hy⟩ := hcut
          subst hwx
          clear HM HB few shrt
          obtain ⟨s', E', rv', av', hM⟩ := hy.out
          obtain ⟨nf, hnf⟩ : ∃ nf, nf = E'.fs.length := ⟨_, rfl⟩
          obtain ⟨nt, hnt⟩ : ∃ nt, nt = E'.tasks.length := ⟨_, rfl⟩
          have PN := Lib.hid (pinned_any hM.pl.ep)
          obtain ⟨pA, pc, qv, hq0, hq1⟩ : ∃ pA pc qv, (∀ W, Turn (fun _ => False) wx W → Nums Z W (.slice pA nt pc) E'.tasks ∧ W.cell? ⟨qb, 0, none⟩ = some (.slice pA nt pc) ∧ W.cell? ⟨qb, 1, none⟩ = some qv) ∧ ∃ lA lc, qv = .slice lA nf lc := by
            obtain ⟨pvv, lv, ws, hD⟩ := hM.pl.dc
            obtain ⟨pA, pc, rfl⟩ := hD.pins.form
            obtain ⟨lA, lc, rfl⟩ := own_form hD.row
            rw [hnt, hnf]
            exact ⟨pA, pc, _, fun W hW => ⟨hD.pins.same hW, (hD.same hW).cells.1, (hD.same hW).cells.2⟩, lA, lc, rfl⟩
          obtain ⟨lA, lc, rfl⟩ := hq1
          have HQ := Lib.hid hq0
          have cx0 := hM.pl.r.x.cell 0
          simp at cx0
          have hnt1 : nt ≤ 100000 := by rw [hnt]; unfold Ab.tasks; rw [List.length_map]; exact hM.pl.dc.wf.small.1
          have HE := Lib.hid (And.intro hM (And.intro hnf hnt))
          clear hM hq0 hy hnf hnt
          go_wp2_with fail
          refine PN.out.mono ?_
          rintro e wp ⟨A, pcap, B, rfl, _, hrow, htp⟩
          rw [← HE.out.2.2] at hrow
          have HW := Lib.hid hrow
          have HP := Lib.hid htp
          have hx := (HE.out.1.pl.same htp).r.x
          have cx0 := hx.cell 0
          have cx1 := hx.cell 1
          simp at cx0 cx1
          obtain ⟨_, cq0, cq1⟩ := HQ.out wp htp
          have Q : Hid (∀ n, Calls Try.prog 16 #[.pointer (some ⟨Z, 0, none⟩)] (wp.drewN n) fun e w'' => e = .returned (.int .i64 (nf : Int)) ∧ ∃ m, w'' = wp.drewN m) :=
            Lib.hid fun n => (waiting_any ((HE.out.1.pl.ep.same HP.out).same ((Turn.refl _ wp).drewN n))).mono fun e w' ⟨he, hw⟩ => ⟨by rw [he, ← HE.out.2.1], n, hw⟩
          rw [← HE.out.2.2]
          clear hrow htp hx PN
          go_wp2_with fail
          go_quiet (first | (go_at_call 16; with_reducible exact Q.out _))
          clear Q
          go_wp2_with fail
          go_loopw [7] (fun mv wz => ∃ m : Nat, m ≤ nt ∧ mv = .int .i64 (m : Int) ∧ Hid (Turn (fun _ => False) wp wz)) (fun mv _ => nt - (intOf mv).toNat)
          case atStart => exact ⟨0, Nat.zero_le _, rfl, (Turn.refl _ wp).drewN _⟩
          case round =>
            obtain ⟨m, hm, rfl, htz⟩ := hrel
            clear cx0 cx1 cq0 cq1
            by_cases hmn : m < nt
            · have b1 : (m : Int) < (nt : Int) := by omega
              have b0 : (0 : Int) ≤ (m : Int) := by omega
              have hxz := ((HE.out.1.pl.same HP.out).same htz.out).r.x
              have z1 := hxz.cell 1
              simp at z1
              obtain ⟨hpn, zq0, _⟩ := HQ.out _ (HP.out.trans htz.out)
              obtain ⟨g1, x1, hA1, hx1, hc1, _, hg1, hv1⟩ := hpn.at (j := m) (by rw [← HE.out.2.2]; exact hmn)
              have hWz : Nums B wr (.slice A nt pcap) E'.tasks := by
                unfold Nums
                rw [← HE.out.2.2]
                exact own_turn HW.out htz.out (fun _ _ _ _ _ h => h)
              obtain ⟨g2, x2, hA2, hx2, hc2, _, hg2, hv2⟩ := hWz.at (j := m) (by rw [← HE.out.2.2]; exact hmn)
              rw [hx1] at hx2
              injection hx2 with hx2
              subst hA1 hA2 hx2
              rw [← HE.out.2.2] at hc1 hc2
              clear hxz hpn hx1 hWz
              go_wp2_with fail
              go_quiet (fail)
              go_wp2_with fail
              go_roundw
              case rel => exact ⟨m + 1, by omega, by go_num, (htz.out.drewN _)⟩
              case measure => simp [intOf]; omega
            · have b1 : ¬ (m : Int) < (nt : Int) := by omega
              have hfin : Hid (PlS w1 wr Z xb qb Z (k + 1)) := Lib.hid ⟨s', E', rv', av', (HE.out.1.same HP.out).same htz.out⟩
              clear HE HQ HW HP htz
              go_wp2_with fail
              go_roundw
              case rel => exact ⟨k + 1, by omega, by go_num, hfin⟩
              case measure => simp [intOf]; omega
      · have hkl : ¬ (k : Int) < (len : Int) := by omega
        obtain ⟨s, E, rv, av, hst⟩ := hst0.out
        have hdone := Lib.hid hst.tn
        clear hst hst0
        go_wp2_with fail
        go_ret
        exact ⟨rfl, (H1.out.trans (hdone.out.none (by have := hZ.out; omega))).below (Nat.le_refl _) (fun _ _ h => h)⟩
end Go.Proofs.Ythohhehelnkpgaa
