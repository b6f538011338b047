/-
  OmapApart: what an operation doesn't name is as it was; two that name no key, both, may be done in either row.
-/
import Derived.Test.YtjjmooegpoeomaaWShr
namespace Go.Proofs.Ytjjmooegpoeomaa
open Go.RowKit Go.Lib
set_option linter.unusedVariables false
set_option linter.unusedSimpArgs false

theorem Row.at0 {w : World} {b : Nat} {l : List Pr} (h : Row w (some ⟨b, 0, none⟩) (pcs l)) {j : Nat} {p : Pr} (hj : l[j]? = some p) : w.cell? ⟨b, j * 2, none⟩ = some (.string p.k) ∧ w.cell? ⟨b, j * 2 + 1, none⟩ = some (.string p.v) := by
  obtain ⟨b', o', e, _, h1, h2⟩ := h.pair hj
  injection e with e
  injection e with e1 e2
  subst e1 e2
  rw [Nat.zero_add] at h1 h2
  exact ⟨h1, h2⟩
theorem Row.no {w w' : World} {A : Option Addr} {xs : List Value} (h : Row w A xs) (t : Turn No w w') : Row w' A xs := h.turn t fun _ _ _ h => h
theorem any_eq_step {l : List Pr} {j : Nat} {q p : Pr} (hj : l[j]? = some q) : (l.take (j + 1)).any (fun x => decide (x = p)) = ((l.take j).any (fun x => decide (x = p)) || decide (q = p)) := by
  rw [List.take_add_one, List.any_append, hj]
  simp
theorem any_eq_mem {l : List Pr} {p : Pr} (h : p ∈ l) : (l.take l.length).any (fun x => decide (x = p)) = true := by
  rw [List.take_length]
  exact List.any_eq_true.2 ⟨p, h, decide_eq_true rfl⟩
theorem prEq_dec (q p : Pr) : prEq q.k p.k q.v p.v = decide (q = p) := by
  cases h : prEq q.k p.k q.v p.v with
  | true => exact (decide_eq_true (prEq_iff.1 h)).symm
  | false => exact (decide_eq_false fun e => by rw [prEq_iff.2 e] at h; cases h).symm

set_option maxRecDepth 100000 in
set_option maxHeartbeats 16000000 in
theorem apart_any (A : Option Addr) (cap : Nat) (l : List Pr) (kd1 : Int) (k1 v1 o1 : ByteArray) (h1 f1 : Bool) (A1 : Option Addr) (c1 : Nat) (ws1 : List Wr) (kd2 : Int) (k2 v2 o2 : ByteArray) (h2 f2 : Bool) (A2 : Option Addr) (c2 : Nat) (ws2 : List Wr) (w : World) (hl : InP w A l.length cap l) (hx : InO w ⟨kd1, k1, v1, o1, h1, f1, A1, ws1.length, c1⟩ ws1) (hy : InO w ⟨kd2, k2, v2, o2, h2, f2, A2, ws2.length, c2⟩ ws2) :
    Calls Try.prog 8 #[.slice A l.length cap, .agg #[.int .u8 kd1, .string k1, .string v1, .string o1, .bool h1, .bool f1, .slice A1 ws1.length c1], .agg #[.int .u8 kd2, .string k2, .string v2, .string o2, .bool h2, .bool f2, .slice A2 ws2.length c2]] w fun e w' => e = .returned (.bool true) ∧ Turn No w w' := by
  have HR := Lib.hid (And.intro hl (And.intro hx hy))
  have CW := Lib.hid wakes_any
  have HB := Lib.hid (two_new w #[.int .u8 kd1, .string k1, .string v1, .string o1, .bool h1, .bool f1, .slice A1 ws1.length c1] #[.int .u8 kd2, .string k2, .string v2, .string o2, .bool h2, .bool f2, .slice A2 ws2.length c2] 39 39)
  have CG := Lib.hid fun (W : World) (b : Nat) (t : Turn No w W) (ha : At W b (.cells #[.int .u8 kd1, .string k1, .string v1, .string o1, .bool h1, .bool f1, .slice A1 ws1.length c1, .int .u8 kd2, .string k2, .string v2, .string o2, .bool h2, .bool f2, .slice A2 ws2.length c2] 39 (0, 0))) =>
    great_any A cap l (some ⟨b, 0, none⟩) 2 [⟨kd1, k1, v1, o1, h1, f1, A1, ws1.length, c1⟩, ⟨kd2, k2, v2, o2, h2, f2, A2, ws2.length, c2⟩] [ws1, ws2] W ⟨rfl, HR.out.1.hmax, HR.out.1.row.no t, HR.out.1.fit, HR.out.1.nil⟩ ⟨rfl, by unfold maxLen; simp, (by
      intro j u hj
      exact ⟨b, 0, rfl, ha.lt, by rw [ha.cell]; simpa [ocs, Opx.cs] using hj⟩), rfl, (by
      intro j x ws2 h1 h2
      match j, h1, h2 with
      | 0, h1, h2 =>
        simp at h1 h2
        subst h1 h2
        exact HR.out.2.1.no t
      | 1, h1, h2 =>
        simp at h1 h2
        subst h1 h2
        exact HR.out.2.2.no t)⟩
  clear hl hx hy
  go_enter Try.func8, Try.ntmps8
  go_upto_region 1 with fail
  generalize (w.alloc (.cells #[.int .u8 kd1, .string k1, .string v1, .string o1, .bool h1, .bool f1, .slice A1 ws1.length c1] 39)).alloc (.cells #[.int .u8 kd2, .string k2, .string v2, .string o2, .bool h2, .bool f2, .slice A2 ws2.length c2] 39) = w1 at HB ⊢
  obtain ⟨g4, hg4⟩ : ∃ g, w.heap.size = g := ⟨_, rfl⟩
  rw [hg4] at HB ⊢
  clear hg4
  obtain ⟨g5, hg5⟩ : ∃ g, g4 + 1 = g := ⟨_, rfl⟩
  rw [hg5] at HB ⊢
  clear hg5
  have y0 := HB.out.2.1.cell 0
  have y1 := HB.out.2.1.cell 1
  have y2 := HB.out.2.1.cell 2
  have y3 := HB.out.2.1.cell 3
  have y4 := HB.out.2.1.cell 4
  have y5 := HB.out.2.1.cell 5
  have y6 := HB.out.2.1.cell 6
  simp at y0 y1 y2 y3 y4 y5 y6
  have z0 := HB.out.2.2.cell 0
  have z1 := HB.out.2.2.cell 1
  have z2 := HB.out.2.2.cell 2
  have z3 := HB.out.2.2.cell 3
  have z4 := HB.out.2.2.cell 4
  have z5 := HB.out.2.2.cell 5
  have z6 := HB.out.2.2.cell 6
  simp at z0 z1 z2 z3 z4 z5 z6
  go_upto_if 29 with (go_at_call 9; refine (CG.out _ _ (HB.out.1.alloc _) (At.new _ _)).mono ?_; rintro e w2 ⟨⟨bv, rfl, hP⟩, ht⟩; have H2 : Hid (Turn No w w2 ∧ At w2 g4 (.cells #[.int .u8 kd1, .string k1, .string v1, .string o1, .bool h1, .bool f1, .slice A1 ws1.length c1] 39 (0, 0)) ∧ At w2 g5 (.cells #[.int .u8 kd2, .string k2, .string v2, .string o2, .bool h2, .bool f2, .slice A2 ws2.length c2] 39 (0, 0))) := Lib.hid ⟨HB.out.1.trans (((Turn.refl _ _).alloc _).trans ht), HB.out.2.1.no (((Turn.refl _ _).alloc _).trans ht), HB.out.2.2.no (((Turn.refl _ _).alloc _).trans ht)⟩; have HP := Lib.hid hP; clear ht hP)
  clear CG HB y0 y1 y2 y3 y4 y5 y6 z0 z1 z2 z3 z4 z5 z6
  cases bv with
  | true =>
    go_wp2_with (go_at_call 10; refine (CW.out _).mono ?_; rintro e w3 ⟨rfl, ht⟩)
    go_ret
    exact ⟨rfl, H2.out.1.trans ht⟩
  | false =>
    have hF := HP.out rfl
    have HF : Hid (l.length ≤ 100 ∧ Few k1 v1 o1 ws1 ∧ Few k2 v2 o2 ws2) := Lib.hid ⟨hF.nl, hF.w 0 _ _ rfl rfl, hF.w 1 _ _ rfl rfl⟩
    clear hF HP
    have C1 := Lib.hid (so_new H2.out.1 A cap l HR.out.1 HF.out.1)
    go_upto_region 4 with (go_at_call 11; refine C1.out.mono ?_; rintro e w3 ⟨m1, rr1, rfl, hso, ht⟩; have H3 : Hid (So w w3 m1 (some rr1) (news l) ∧ At w3 g4 (.cells #[.int .u8 kd1, .string k1, .string v1, .string o1, .bool h1, .bool f1, .slice A1 ws1.length c1] 39 (0, 0)) ∧ At w3 g5 (.cells #[.int .u8 kd2, .string k2, .string v2, .string o2, .bool h2, .bool f2, .slice A2 ws2.length c2] 39 (0, 0))) := Lib.hid ⟨hso, H2.out.2.1.no ht, H2.out.2.2.no ht⟩; clear hso ht)
    clear C1 H2
    have C2 := Lib.hid (all_any H3.out.1.a)
    go_upto_region 5 with (go_at_call 14; refine C2.out.mono ?_; rintro e w4 ⟨b1, rfl, ho, ht⟩; have H4 : Hid (So w w4 m1 (some rr1) (news l) ∧ At w4 g4 (.cells #[.int .u8 kd1, .string k1, .string v1, .string o1, .bool h1, .bool f1, .slice A1 ws1.length c1] 39 (0, 0)) ∧ At w4 g5 (.cells #[.int .u8 kd2, .string k2, .string v2, .string o2, .bool h2, .bool f2, .slice A2 ws2.length c2] 39 (0, 0)) ∧ Row w4 (some ⟨b1, 0, none⟩) (pcs (news l)) ∧ b1 ≠ m1 ∧ rr1 ≠ b1) := Lib.hid ⟨H3.out.1.no ht, H3.out.2.1.no ht, H3.out.2.2.no ht, row_of_own ho, (by have h1 := ho.lt b1 rfl; have := H3.out.1.a.lt; omega), (by have h1 := ho.lt b1 rfl; have := (H3.out.1.a.rb_lt rfl).2; omega)⟩; clear ho ht)
    clear C2 H3
    obtain ⟨L0, hL0⟩ : ∃ L0, news l = L0 := ⟨_, rfl⟩
    have HL0 : Hid (news l = L0 ∧ Asc L0 ∧ L0.length ≤ 100) := Lib.hid ⟨hL0, hL0 ▸ asc_news l, hL0 ▸ news_few HF.out.1⟩
    rw [hL0] at H4 ⊢
    clear hL0
    obtain ⟨L1, hL1⟩ : ∃ L1, doM L0 kd1 k1 v1 o1 h1 f1 ws1 = L1 := ⟨_, rfl⟩
    obtain ⟨a1, ha1⟩ : ∃ a, doA L0 kd1 k1 v1 o1 h1 f1 ws1 = a := ⟨_, rfl⟩
    have C3 := Lib.hid (om_do H4.out.1.a H4.out.1.tu kd1 k1 v1 o1 h1 f1 A1 c1 ws1 HR.out.2.1.row.row HF.out.2.1 (by have := HL0.out.2.2; omega) ha1 hL1)
    have HL1 : Hid (doM L0 kd1 k1 v1 o1 h1 f1 ws1 = L1 ∧ L1.length ≤ 200) := Lib.hid ⟨hL1, by have h1 := doM_length L0 kd1 k1 v1 o1 h1 f1 ws1; have h2 := HF.out.2.1.n; have h3 := HL0.out.2.2; rw [hL1] at h1; omega⟩
    have HA1 := Lib.hid ha1
    clear hL1 ha1
    have y0 := H4.out.2.1.cell 0
    have y1 := H4.out.2.1.cell 1
    have y2 := H4.out.2.1.cell 2
    have y3 := H4.out.2.1.cell 3
    have y4 := H4.out.2.1.cell 4
    have y5 := H4.out.2.1.cell 5
    have y6 := H4.out.2.1.cell 6
    simp at y0 y1 y2 y3 y4 y5 y6
    go_upto_region 6 with (go_at_call 16; refine C3.out.mono ?_; rintro e w5 ⟨rfl, r1, hom, hr, ht⟩; have H5 : Hid (So w w5 m1 r1 L1 ∧ At w5 g4 (.cells #[.int .u8 kd1, .string k1, .string v1, .string o1, .bool h1, .bool f1, .slice A1 ws1.length c1] 39 (0, 0)) ∧ At w5 g5 (.cells #[.int .u8 kd2, .string k2, .string v2, .string o2, .bool h2, .bool f2, .slice A2 ws2.length c2] 39 (0, 0)) ∧ Row w5 (some ⟨b1, 0, none⟩) (pcs L0)) := Lib.hid ⟨⟨hom, turn_mp H4.out.1.a H4.out.1.tu ht⟩, H4.out.1.a.keep H4.out.2.1 (by decide) (by decide) ht, H4.out.1.a.keep H4.out.2.2.1 (by decide) (by decide) ht, H4.out.2.2.2.1.turn ht (fun b o e h => by injection e with e; injection e with e; subst e; rcases h with h | h; exact H4.out.2.2.2.2.1 h; (injection h with h; exact H4.out.2.2.2.2.2 h))⟩; clear hom hr ht)
    clear C3 H4 y0 y1 y2 y3 y4 y5 y6
    have C4 := Lib.hid (all_any H5.out.1.a)
    go_upto_region 7 with (go_at_call 14; refine C4.out.mono ?_; rintro e w6 ⟨b2, rfl, ho, ht⟩; have H6 : Hid (Turn No w w6 ∧ At w6 g4 (.cells #[.int .u8 kd1, .string k1, .string v1, .string o1, .bool h1, .bool f1, .slice A1 ws1.length c1] 39 (0, 0)) ∧ At w6 g5 (.cells #[.int .u8 kd2, .string k2, .string v2, .string o2, .bool h2, .bool f2, .slice A2 ws2.length c2] 39 (0, 0)) ∧ Row w6 (some ⟨b1, 0, none⟩) (pcs L0) ∧ Row w6 (some ⟨b2, 0, none⟩) (pcs L1)) := Lib.hid ⟨H5.out.1.tu.trans ht, H5.out.2.1.no ht, H5.out.2.2.1.no ht, H5.out.2.2.2.no ht, row_of_own ho⟩; clear ho ht)
    clear C4 H5
    have CN := Lib.hid fun (W : World) (t : Turn No w6 W) (key : ByteArray) => names_any kd1 k1 v1 o1 h1 f1 A1 c1 ws1 key W (HR.out.2.1.row.row.no (H6.out.1.trans t)) HF.out.2.1.n
    have n0 : L0.length ≤ 100 := HL0.out.2.2
    have n1 : L1.length ≤ 200 := HL1.out.2
    go_wp2_with fail
    go_loopw [10] (fun x wr => ∃ i : Nat, i ≤ L0.length ∧ x = .int .i64 (i : Int) ∧ Hid (Turn No w6 wr)) (fun x _ => L0.length - (RowKit.intOf x).toNat)
    case atStart => exact ⟨0, Nat.zero_le _, rfl, Lib.hid (Turn.refl _ _)⟩
    case round =>
      obtain ⟨i, hi, rfl, HP⟩ := hrel
      by_cases hlt : i < L0.length
      · obtain ⟨p, hp⟩ : ∃ p, L0[i]? = some p := ⟨L0[i], List.getElem?_eq_getElem hlt⟩
        obtain ⟨nb, hnb⟩ : ∃ nb, namesO kd1 k1 ws1 p.k = nb := ⟨_, rfl⟩
        have HM : Hid (nb = false → p ∈ L1) := Lib.hid fun e => by
          have h0 := HL0.out.2.1
          have hm := List.mem_of_getElem? hp
          subst e
          rw [← HL1.out.1]; exact (mem_other h0 hnb).2 hm
        have HPP := Lib.hid hp
        have hcp : Hid (∀ W, Turn No w6 W → W.cell? ⟨b1, i * 2, none⟩ = some (.string p.k) ∧ W.cell? ⟨b1, i * 2 + 1, none⟩ = some (.string p.v)) := Lib.hid fun W t => (H6.out.2.2.2.1.no t).at0 hp
        have CN2 := Lib.hid (CN.out wr.drew (HP.out.drew) p.k)
        rw [hnb] at CN2
        obtain ⟨pk, pv⟩ := p
        have hSa : Hid (∀ W, Turn No w6 W → W.cell? ⟨g4, 0, none⟩ = some (.int .u8 kd1) ∧ W.cell? ⟨g4, 1, none⟩ = some (.string k1) ∧ W.cell? ⟨g4, 2, none⟩ = some (.string v1) ∧ W.cell? ⟨g4, 3, none⟩ = some (.string o1) ∧ W.cell? ⟨g4, 4, none⟩ = some (.bool h1) ∧ W.cell? ⟨g4, 5, none⟩ = some (.bool f1) ∧ W.cell? ⟨g4, 6, none⟩ = some (.slice A1 ws1.length c1) ∧ W.cell? ⟨b1, i * 2, none⟩ = some (.string pk)) := Lib.hid fun W t => ⟨by simpa using (H6.out.2.1.no t).cell 0, by simpa using (H6.out.2.1.no t).cell 1, by simpa using (H6.out.2.1.no t).cell 2, by simpa using (H6.out.2.1.no t).cell 3, by simpa using (H6.out.2.1.no t).cell 4, by simpa using (H6.out.2.1.no t).cell 5, by simpa using (H6.out.2.1.no t).cell 6, (hcp.out W t).1⟩
        have hS0 := hSa.out wr.drew HP.out.drew
        have hq1 : (0 : Int) ≤ (i : Int) := by omega
        have hq2 : (i : Int) < (L0.length : Int) := by omega
        clear hp hnb
        go_wp2_with fail
        go_region_held3 (fun W => W.cell? ⟨g4, 0, none⟩ = some (.int .u8 kd1) ∧ W.cell? ⟨g4, 1, none⟩ = some (.string k1) ∧ W.cell? ⟨g4, 2, none⟩ = some (.string v1) ∧ W.cell? ⟨g4, 3, none⟩ = some (.string o1) ∧ W.cell? ⟨g4, 4, none⟩ = some (.bool h1) ∧ W.cell? ⟨g4, 5, none⟩ = some (.bool f1) ∧ W.cell? ⟨g4, 6, none⟩ = some (.slice A1 ws1.length c1) ∧ W.cell? ⟨b1, i * 2, none⟩ = some (.string pk)) (first | (with_reducible exact hS0) | (with_reducible exact hSa.out _ T9.out)) (first | (go_at_call 23; (with_reducible refine CN2.out.mono ?_); rintro e w9 ⟨rfl, ht⟩; have T9 : Hid (Turn No w6 w9) := Lib.hid (HP.out.drew.trans ht); clear ht))
        clear hS0 hSa CN2
        cases nb with
        | true =>
          go_wp2_with fail
          exact ⟨⟨i + 1, by omega, by go_num, T9⟩, by simp [RowKit.intOf]; omega⟩
        | false =>
          have HMM := Lib.hid (HM.out rfl)
          clear HM
          go_wp2_with fail
          go_loopw [11, 12] (fun y x wz => ∃ kk : Nat, kk ≤ L1.length ∧ y = .bool ((L1.take kk).any (fun x => decide (x = ⟨pk, pv⟩))) ∧ x = .int .i64 (kk : Int) ∧ Hid (Turn No w6 wz)) (fun _ x _ => L1.length - (RowKit.intOf x).toNat)
          case atStart => exact ⟨0, Nat.zero_le _, by simp, rfl, T9⟩
          case round =>
            obtain ⟨kk, hk, rfl, rfl, HZ⟩ := hrel
            by_cases hlk : kk < L1.length
            · obtain ⟨q, hq⟩ : ∃ q, L1[kk]? = some q := ⟨L1[kk], List.getElem?_eq_getElem hlk⟩
              have hst := any_eq_step (p := ⟨pk, pv⟩) hq
              have hcq := (H6.out.2.2.2.2.no HZ.out).at0 hq
              have hcp2 := hcp.out wr HZ.out
              rw [← prEq_dec] at hst
              obtain ⟨qk, qv⟩ := q
              simp only at hst hcq hcp2
              obtain ⟨x0, x1⟩ := hcp2
              obtain ⟨x2, x3⟩ := hcq
              have qe := fun W => eql_pr qk pk qv pv W
              have hr1 : (0 : Int) ≤ (kk : Int) := by omega
              have hr2 : (kk : Int) < (L1.length : Int) := by omega
              generalize hfb : (L1.take kk).any (fun x => decide (x = ⟨pk, pv⟩)) = fb at hst ⊢
              have HST := Lib.hid hst
              clear hq hst hfb
              cases fb with
              | true =>
                go_wp2_with fail
                go_quiet (fail)
                all_goals go_wp2_with fail
                all_goals exact ⟨⟨kk + 1, by omega, by rw [HST.out]; rfl, by go_num, Lib.hid (HZ.out.drewN _)⟩, by simp [RowKit.intOf]; omega⟩
              | false =>
                go_wp2_with fail
                go_quiet (fail)
                all_goals go_wp2_with fail
                all_goals exact ⟨⟨kk + 1, by omega, by rw [HST.out]; rfl, by go_num, Lib.hid (HZ.out.drewN _)⟩, by simp [RowKit.intOf]; omega⟩
            · obtain rfl : kk = L1.length := by omega
              rw [any_eq_mem HMM.out]
              go_wp2_with fail
              exact ⟨⟨i + 1, by omega, by go_num, HZ⟩, by simp [RowKit.intOf]; omega⟩
      · obtain rfl : i = L0.length := by omega
        go_wp2_with fail
        go_loopw [13] (fun x wr => ∃ i : Nat, i ≤ L1.length ∧ x = .int .i64 (i : Int) ∧ Hid (Turn No w6 wr)) (fun x _ => L1.length - (RowKit.intOf x).toNat)
        case atStart => exact ⟨0, Nat.zero_le _, rfl, Lib.hid (HP.out)⟩
        case round =>
          obtain ⟨i, hi, rfl, HP⟩ := hrel
          by_cases hlt : i < L1.length
          · obtain ⟨p, hp⟩ : ∃ p, L1[i]? = some p := ⟨L1[i], List.getElem?_eq_getElem hlt⟩
            obtain ⟨nb, hnb⟩ : ∃ nb, namesO kd1 k1 ws1 p.k = nb := ⟨_, rfl⟩
            have HM : Hid (nb = false → p ∈ L0) := Lib.hid fun e => by
              have h0 := HL0.out.2.1
              have hm := List.mem_of_getElem? hp
              subst e
              rw [← HL1.out.1] at hm; exact (mem_other h0 hnb).1 hm
            have HPP := Lib.hid hp
            have hcp : Hid (∀ W, Turn No w6 W → W.cell? ⟨b2, i * 2, none⟩ = some (.string p.k) ∧ W.cell? ⟨b2, i * 2 + 1, none⟩ = some (.string p.v)) := Lib.hid fun W t => (H6.out.2.2.2.2.no t).at0 hp
            have CN2 := Lib.hid (CN.out wr.drew (HP.out.drew) p.k)
            rw [hnb] at CN2
            obtain ⟨pk, pv⟩ := p
            have hSa : Hid (∀ W, Turn No w6 W → W.cell? ⟨g4, 0, none⟩ = some (.int .u8 kd1) ∧ W.cell? ⟨g4, 1, none⟩ = some (.string k1) ∧ W.cell? ⟨g4, 2, none⟩ = some (.string v1) ∧ W.cell? ⟨g4, 3, none⟩ = some (.string o1) ∧ W.cell? ⟨g4, 4, none⟩ = some (.bool h1) ∧ W.cell? ⟨g4, 5, none⟩ = some (.bool f1) ∧ W.cell? ⟨g4, 6, none⟩ = some (.slice A1 ws1.length c1) ∧ W.cell? ⟨b2, i * 2, none⟩ = some (.string pk)) := Lib.hid fun W t => ⟨by simpa using (H6.out.2.1.no t).cell 0, by simpa using (H6.out.2.1.no t).cell 1, by simpa using (H6.out.2.1.no t).cell 2, by simpa using (H6.out.2.1.no t).cell 3, by simpa using (H6.out.2.1.no t).cell 4, by simpa using (H6.out.2.1.no t).cell 5, by simpa using (H6.out.2.1.no t).cell 6, (hcp.out W t).1⟩
            have hS0 := hSa.out wr.drew HP.out.drew
            have hq1 : (0 : Int) ≤ (i : Int) := by omega
            have hq2 : (i : Int) < (L1.length : Int) := by omega
            clear hp hnb
            go_wp2_with fail
            go_region_held3 (fun W => W.cell? ⟨g4, 0, none⟩ = some (.int .u8 kd1) ∧ W.cell? ⟨g4, 1, none⟩ = some (.string k1) ∧ W.cell? ⟨g4, 2, none⟩ = some (.string v1) ∧ W.cell? ⟨g4, 3, none⟩ = some (.string o1) ∧ W.cell? ⟨g4, 4, none⟩ = some (.bool h1) ∧ W.cell? ⟨g4, 5, none⟩ = some (.bool f1) ∧ W.cell? ⟨g4, 6, none⟩ = some (.slice A1 ws1.length c1) ∧ W.cell? ⟨b2, i * 2, none⟩ = some (.string pk)) (first | (with_reducible exact hS0) | (with_reducible exact hSa.out _ T9.out)) (first | (go_at_call 23; (with_reducible refine CN2.out.mono ?_); rintro e w9 ⟨rfl, ht⟩; have T9 : Hid (Turn No w6 w9) := Lib.hid (HP.out.drew.trans ht); clear ht))
            clear hS0 hSa CN2
            cases nb with
            | true =>
              go_wp2_with fail
              exact ⟨⟨i + 1, by omega, by go_num, T9⟩, by simp [RowKit.intOf]; omega⟩
            | false =>
              have HMM := Lib.hid (HM.out rfl)
              clear HM
              go_wp2_with fail
              go_loopw [14, 15] (fun y x wz => ∃ kk : Nat, kk ≤ L0.length ∧ y = .bool ((L0.take kk).any (fun x => decide (x = ⟨pk, pv⟩))) ∧ x = .int .i64 (kk : Int) ∧ Hid (Turn No w6 wz)) (fun _ x _ => L0.length - (RowKit.intOf x).toNat)
              case atStart => exact ⟨0, Nat.zero_le _, by simp, rfl, T9⟩
              case round =>
                obtain ⟨kk, hk, rfl, rfl, HZ⟩ := hrel
                by_cases hlk : kk < L0.length
                · obtain ⟨q, hq⟩ : ∃ q, L0[kk]? = some q := ⟨L0[kk], List.getElem?_eq_getElem hlk⟩
                  have hst := any_eq_step (p := ⟨pk, pv⟩) hq
                  have hcq := (H6.out.2.2.2.1.no HZ.out).at0 hq
                  have hcp2 := hcp.out wr HZ.out
                  rw [← prEq_dec] at hst
                  obtain ⟨qk, qv⟩ := q
                  simp only at hst hcq hcp2
                  obtain ⟨x0, x1⟩ := hcp2
                  obtain ⟨x2, x3⟩ := hcq
                  have qe := fun W => eql_pr qk pk qv pv W
                  have hr1 : (0 : Int) ≤ (kk : Int) := by omega
                  have hr2 : (kk : Int) < (L0.length : Int) := by omega
                  generalize hfb : (L0.take kk).any (fun x => decide (x = ⟨pk, pv⟩)) = fb at hst ⊢
                  have HST := Lib.hid hst
                  clear hq hst hfb
                  cases fb with
                  | true =>
                    go_wp2_with fail
                    go_quiet (fail)
                    all_goals go_wp2_with fail
                    all_goals exact ⟨⟨kk + 1, by omega, by rw [HST.out]; rfl, by go_num, Lib.hid (HZ.out.drewN _)⟩, by simp [RowKit.intOf]; omega⟩
                  | false =>
                    go_wp2_with fail
                    go_quiet (fail)
                    all_goals go_wp2_with fail
                    all_goals exact ⟨⟨kk + 1, by omega, by rw [HST.out]; rfl, by go_num, Lib.hid (HZ.out.drewN _)⟩, by simp [RowKit.intOf]; omega⟩
                · obtain rfl : kk = L0.length := by omega
                  rw [any_eq_mem HMM.out]
                  go_wp2_with fail
                  exact ⟨⟨i + 1, by omega, by go_num, HZ⟩, by simp [RowKit.intOf]; omega⟩
          · obtain rfl : i = L1.length := by omega
            have HW : Hid (Turn No w wr ∧ At wr g4 (.cells #[.int .u8 kd1, .string k1, .string v1, .string o1, .bool h1, .bool f1, .slice A1 ws1.length c1] 39 (0, 0)) ∧ At wr g5 (.cells #[.int .u8 kd2, .string k2, .string v2, .string o2, .bool h2, .bool f2, .slice A2 ws2.length c2] 39 (0, 0))) := Lib.hid ⟨H6.out.1.trans HP.out, H6.out.2.1.no HP.out, H6.out.2.2.1.no HP.out⟩
            have CS := Lib.hid (shares_any kd1 k1 v1 o1 h1 f1 A1 c1 ws1 kd2 k2 v2 o2 h2 f2 A2 c2 ws2 wr (HR.out.2.1.row.row.no HW.out.1) HF.out.2.1.n (HR.out.2.2.row.row.no HW.out.1) HF.out.2.2.n)
            obtain ⟨sb, hsb⟩ : ∃ sb, sharesO kd1 k1 ws1 kd2 k2 ws2 = sb := ⟨_, rfl⟩
            rw [hsb] at CS
            have HSB := Lib.hid hsb
            clear hsb CN H6 HP
            have y0 := (HW.out.2.1).cell 0
            have y1 := (HW.out.2.1).cell 1
            have y2 := (HW.out.2.1).cell 2
            have y3 := (HW.out.2.1).cell 3
            have y4 := (HW.out.2.1).cell 4
            have y5 := (HW.out.2.1).cell 5
            have y6 := (HW.out.2.1).cell 6
            simp at y0 y1 y2 y3 y4 y5 y6
            have z0 := (HW.out.2.2).cell 0
            have z1 := (HW.out.2.2).cell 1
            have z2 := (HW.out.2.2).cell 2
            have z3 := (HW.out.2.2).cell 3
            have z4 := (HW.out.2.2).cell 4
            have z5 := (HW.out.2.2).cell 5
            have z6 := (HW.out.2.2).cell 6
            simp at z0 z1 z2 z3 z4 z5 z6
            cases sb with
            | true =>
              go_wp2_with (first | (go_at_call 24; (with_reducible refine CS.out.mono ?_); rintro e w7 ⟨rfl, ht⟩; have H7 : Hid (Turn No w w7 ∧ At w7 g4 (.cells #[.int .u8 kd1, .string k1, .string v1, .string o1, .bool h1, .bool f1, .slice A1 ws1.length c1] 39 (0, 0)) ∧ At w7 g5 (.cells #[.int .u8 kd2, .string k2, .string v2, .string o2, .bool h2, .bool f2, .slice A2 ws2.length c2] 39 (0, 0))) := Lib.hid ⟨HW.out.1.trans ht, HW.out.2.1.no ht, HW.out.2.2.no ht⟩; have u0 := H7.out.2.1.cell 0; have v0 := H7.out.2.2.cell 0; simp at u0 v0; clear ht) | (go_at_call 10; refine (CW.out _).mono ?_; rintro e w9 ⟨rfl, ht⟩))
              go_ret
              exact ⟨rfl, H7.out.1.trans ht⟩
            | false =>
              by_cases e5 : kd1 = 5
              · subst e5
                go_wp2_with (first | (go_at_call 24; (with_reducible refine CS.out.mono ?_); rintro e w7 ⟨rfl, ht⟩; have H7 : Hid (Turn No w w7 ∧ At w7 g4 (.cells #[.int .u8 5, .string k1, .string v1, .string o1, .bool h1, .bool f1, .slice A1 ws1.length c1] 39 (0, 0)) ∧ At w7 g5 (.cells #[.int .u8 kd2, .string k2, .string v2, .string o2, .bool h2, .bool f2, .slice A2 ws2.length c2] 39 (0, 0))) := Lib.hid ⟨HW.out.1.trans ht, HW.out.2.1.no ht, HW.out.2.2.no ht⟩; have u0 := H7.out.2.1.cell 0; have v0 := H7.out.2.2.cell 0; simp at u0 v0; clear ht) | (go_at_call 10; refine (CW.out _).mono ?_; rintro e w9 ⟨rfl, ht⟩))
                go_ret
                exact ⟨rfl, H7.out.1.trans ht⟩
              · by_cases e6 : kd2 = 5
                · subst e6
                  go_wp2_with (first | (go_at_call 24; (with_reducible refine CS.out.mono ?_); rintro e w7 ⟨rfl, ht⟩; have H7 : Hid (Turn No w w7 ∧ At w7 g4 (.cells #[.int .u8 kd1, .string k1, .string v1, .string o1, .bool h1, .bool f1, .slice A1 ws1.length c1] 39 (0, 0)) ∧ At w7 g5 (.cells #[.int .u8 5, .string k2, .string v2, .string o2, .bool h2, .bool f2, .slice A2 ws2.length c2] 39 (0, 0))) := Lib.hid ⟨HW.out.1.trans ht, HW.out.2.1.no ht, HW.out.2.2.no ht⟩; have u0 := H7.out.2.1.cell 0; have v0 := H7.out.2.2.cell 0; simp at u0 v0; clear ht) | (go_at_call 10; refine (CW.out _).mono ?_; rintro e w9 ⟨rfl, ht⟩))
                  go_ret
                  exact ⟨rfl, H7.out.1.trans ht⟩
                · have e5b : (kd1 == 5) = false := by simpa using e5
                  have e6b : (kd2 == 5) = false := by simpa using e6
                  have HAP := Lib.hid (apt_of (x := ⟨kd1, k1, v1, o1, h1, f1, A1, ws1.length, c1⟩) (y := ⟨kd2, k2, v2, o2, h2, f2, A2, ws2.length, c2⟩) HL0.out.2.1 HSB.out e5 e6)
                  go_upto_region 31 with (go_at_call 24; (with_reducible refine CS.out.mono ?_); rintro e w7 ⟨rfl, ht⟩; have H7 : Hid (Turn No w w7 ∧ At w7 g4 (.cells #[.int .u8 kd1, .string k1, .string v1, .string o1, .bool h1, .bool f1, .slice A1 ws1.length c1] 39 (0, 0)) ∧ At w7 g5 (.cells #[.int .u8 kd2, .string k2, .string v2, .string o2, .bool h2, .bool f2, .slice A2 ws2.length c2] 39 (0, 0))) := Lib.hid ⟨HW.out.1.trans ht, HW.out.2.1.no ht, HW.out.2.2.no ht⟩; have u0 := H7.out.2.1.cell 0; have v0 := H7.out.2.2.cell 0; simp at u0 v0; clear ht)
                  clear y0 y1 y2 y3 y4 y5 y6 z0 z1 z2 z3 z4 z5 z6 u0 v0 HW CS
                  have C1 := Lib.hid (so_new H7.out.1 A cap l HR.out.1 HF.out.1)
                  rw [HL0.out.1] at C1
                  go_upto_region 32 with (go_at_call 11; refine C1.out.mono ?_; rintro e w8 ⟨mp, rr1, rfl, hso, ht⟩; have H8 : Hid (So w w8 mp (some rr1) L0 ∧ At w8 g4 (.cells #[.int .u8 kd1, .string k1, .string v1, .string o1, .bool h1, .bool f1, .slice A1 ws1.length c1] 39 (0, 0)) ∧ At w8 g5 (.cells #[.int .u8 kd2, .string k2, .string v2, .string o2, .bool h2, .bool f2, .slice A2 ws2.length c2] 39 (0, 0))) := Lib.hid ⟨hso, H7.out.2.1.no ht, H7.out.2.2.no ht⟩; clear hso ht)
                  clear C1 H7
                  have C2 := Lib.hid (sc_new H8.out.1 A cap l HR.out.1 HF.out.1)
                  rw [HL0.out.1] at C2
                  go_upto_region 33 with (go_at_call 11; refine C2.out.mono ?_; rintro e w9 ⟨mq, rr2, rfl, hsc, ht⟩; have H9 : Hid (Sc w w9 mp (some rr1) L0 mq (some rr2) L0 ∧ At w9 g4 (.cells #[.int .u8 kd1, .string k1, .string v1, .string o1, .bool h1, .bool f1, .slice A1 ws1.length c1] 39 (0, 0)) ∧ At w9 g5 (.cells #[.int .u8 kd2, .string k2, .string v2, .string o2, .bool h2, .bool f2, .slice A2 ws2.length c2] 39 (0, 0))) := Lib.hid ⟨hsc, H8.out.2.1.no ht, H8.out.2.2.no ht⟩; clear hsc ht)
                  clear C2 H8
                  obtain ⟨rp0, hrp⟩ : ∃ r, some rr1 = r := ⟨_, rfl⟩
                  obtain ⟨rq0, hrq⟩ : ∃ r, some rr2 = r := ⟨_, rfl⟩
                  rw [hrp, hrq] at H9
                  clear hrp hrq
                  obtain ⟨L2, hL2⟩ : ∃ L2, doM L1 kd2 k2 v2 o2 h2 f2 ws2 = L2 := ⟨_, rfl⟩
                  obtain ⟨L3, hL3⟩ : ∃ L3, doM L0 kd2 k2 v2 o2 h2 f2 ws2 = L3 := ⟨_, rfl⟩
                  obtain ⟨a2, ha2⟩ : ∃ a, doA L0 kd2 k2 v2 o2 h2 f2 ws2 = a := ⟨_, rfl⟩
                  have HLE : Hid (L0.length ≤ 100 ∧ L1.length ≤ 200 ∧ L3.length ≤ 200 ∧ L2.length ≤ 300) := Lib.hid ⟨n0, n1, (by have h1 := doM_length L0 kd2 k2 v2 o2 h2 f2 ws2; have h2 := HF.out.2.2.n; rw [hL3] at h1; omega), (by have h1 := doM_length L1 kd2 k2 v2 o2 h2 f2 ws2; have h2 := HF.out.2.2.n; rw [hL2] at h1; omega)⟩
                  have HM : Hid (doM L3 kd1 k1 v1 o1 h1 f1 ws1 = L2 ∧ doA L3 kd1 k1 v1 o1 h1 f1 ws1 = a1 ∧ doA L1 kd2 k2 v2 o2 h2 f2 ws2 = a2) := Lib.hid ⟨by have := HAP.out.ma; simp only at this; rw [HL1.out.1, hL2, hL3] at this; exact this.symm, by have := HAP.out.ax; simp only at this; rw [hL3, HA1.out] at this; exact this, by have := HAP.out.ay; simp only at this; rw [HL1.out.1, ha2] at this; exact this⟩
                  have HM2 := Lib.hid (And.intro hL2 (And.intro hL3 ha2))
                  clear hL2 hL3 ha2 HAP
                  have C := Lib.hid (om_do (H9.out.1.a) (H9.out.1).tu kd1 k1 v1 o1 h1 f1 A1 c1 ws1 HR.out.2.1.row.row HF.out.2.1  (by have := HLE.out; omega) (HA1.out) (HL1.out.1))
                  have y0 := (H9.out.2.1).cell 0
                  have y1 := (H9.out.2.1).cell 1
                  have y2 := (H9.out.2.1).cell 2
                  have y3 := (H9.out.2.1).cell 3
                  have y4 := (H9.out.2.1).cell 4
                  have y5 := (H9.out.2.1).cell 5
                  have y6 := (H9.out.2.1).cell 6
                  simp at y0 y1 y2 y3 y4 y5 y6
                  go_upto_region 34 with (go_at_call 16; refine C.out.mono ?_; rintro e w5 ⟨rfl, rp1, hom, hr, ht⟩; have H5 : Hid (Sc w w5 mp rp1 L1 mq rq0 L0 ∧ At w5 g4 (.cells #[.int .u8 kd1, .string k1, .string v1, .string o1, .bool h1, .bool f1, .slice A1 ws1.length c1] 39 (0, 0)) ∧ At w5 g5 (.cells #[.int .u8 kd2, .string k2, .string v2, .string o2, .bool h2, .bool f2, .slice A2 ws2.length c2] 39 (0, 0))) := Lib.hid ⟨(H9.out.1).step hom hr ht, (H9.out.1.a).keep (H9.out.2.1) (by decide) (by decide) ht, (H9.out.1.a).keep (H9.out.2.2) (by decide) (by decide) ht⟩; clear hom hr ht)
                  clear C H9 y0 y1 y2 y3 y4 y5 y6
                  have H10 : Hid (Sc w (w5.alloc (.cells #[.int .i64 a1.code, .bool a1.found, .string a1.k, .string a1.v] 35)) mp rp1 L1 mq rq0 L0 ∧ At (w5.alloc (.cells #[.int .i64 a1.code, .bool a1.found, .string a1.k, .string a1.v] 35)) g4 (.cells #[.int .u8 kd1, .string k1, .string v1, .string o1, .bool h1, .bool f1, .slice A1 ws1.length c1] 39 (0, 0)) ∧ At (w5.alloc (.cells #[.int .i64 a1.code, .bool a1.found, .string a1.k, .string a1.v] 35)) g5 (.cells #[.int .u8 kd2, .string k2, .string v2, .string o2, .bool h2, .bool f2, .slice A2 ws2.length c2] 39 (0, 0)) ∧ At (w5.alloc (.cells #[.int .i64 a1.code, .bool a1.found, .string a1.k, .string a1.v] 35)) w5.heap.size (.cells #[.int .i64 a1.code, .bool a1.found, .string a1.k, .string a1.v] 35 (0, 0))) := Lib.hid ⟨(H5.out.1).no ((Turn.refl _ _).alloc _), (H5.out.2.1).no ((Turn.refl _ _).alloc _), (H5.out.2.2).no ((Turn.refl _ _).alloc _), At.new _ _⟩
                  generalize w5.alloc (.cells #[.int .i64 a1.code, .bool a1.found, .string a1.k, .string a1.v] 35) = u1 at H10 ⊢
                  generalize w5.heap.size = g18 at H10 ⊢
                  clear H5
                  have C := Lib.hid (om_do (H10.out.1.a) (H10.out.1).tu kd2 k2 v2 o2 h2 f2 A2 c2 ws2 HR.out.2.2.row.row HF.out.2.2  (by have := HLE.out; omega) (HM.out.2.2) (HM2.out.1))
                  have y0 := (H10.out.2.2.1).cell 0
                  have y1 := (H10.out.2.2.1).cell 1
                  have y2 := (H10.out.2.2.1).cell 2
                  have y3 := (H10.out.2.2.1).cell 3
                  have y4 := (H10.out.2.2.1).cell 4
                  have y5 := (H10.out.2.2.1).cell 5
                  have y6 := (H10.out.2.2.1).cell 6
                  simp at y0 y1 y2 y3 y4 y5 y6
                  go_upto_region 35 with (go_at_call 16; refine C.out.mono ?_; rintro e w5 ⟨rfl, rp2, hom, hr, ht⟩; have H5 : Hid (Sc w w5 mp rp2 L2 mq rq0 L0 ∧ At w5 g4 (.cells #[.int .u8 kd1, .string k1, .string v1, .string o1, .bool h1, .bool f1, .slice A1 ws1.length c1] 39 (0, 0)) ∧ At w5 g5 (.cells #[.int .u8 kd2, .string k2, .string v2, .string o2, .bool h2, .bool f2, .slice A2 ws2.length c2] 39 (0, 0)) ∧ At w5 g18 (.cells #[.int .i64 a1.code, .bool a1.found, .string a1.k, .string a1.v] 35 (0, 0))) := Lib.hid ⟨(H10.out.1).step hom hr ht, (H10.out.1.a).keep (H10.out.2.1) (by decide) (by decide) ht, (H10.out.1.a).keep (H10.out.2.2.1) (by decide) (by decide) ht, (H10.out.1.a).keep (H10.out.2.2.2) (by decide) (by decide) ht⟩; clear hom hr ht)
                  clear C H10 y0 y1 y2 y3 y4 y5 y6
                  have H11 : Hid (Sc w (w5.alloc (.cells #[.int .i64 a2.code, .bool a2.found, .string a2.k, .string a2.v] 35)) mp rp2 L2 mq rq0 L0 ∧ At (w5.alloc (.cells #[.int .i64 a2.code, .bool a2.found, .string a2.k, .string a2.v] 35)) g4 (.cells #[.int .u8 kd1, .string k1, .string v1, .string o1, .bool h1, .bool f1, .slice A1 ws1.length c1] 39 (0, 0)) ∧ At (w5.alloc (.cells #[.int .i64 a2.code, .bool a2.found, .string a2.k, .string a2.v] 35)) g5 (.cells #[.int .u8 kd2, .string k2, .string v2, .string o2, .bool h2, .bool f2, .slice A2 ws2.length c2] 39 (0, 0)) ∧ At (w5.alloc (.cells #[.int .i64 a2.code, .bool a2.found, .string a2.k, .string a2.v] 35)) g18 (.cells #[.int .i64 a1.code, .bool a1.found, .string a1.k, .string a1.v] 35 (0, 0)) ∧ At (w5.alloc (.cells #[.int .i64 a2.code, .bool a2.found, .string a2.k, .string a2.v] 35)) w5.heap.size (.cells #[.int .i64 a2.code, .bool a2.found, .string a2.k, .string a2.v] 35 (0, 0))) := Lib.hid ⟨(H5.out.1).no ((Turn.refl _ _).alloc _), (H5.out.2.1).no ((Turn.refl _ _).alloc _), (H5.out.2.2.1).no ((Turn.refl _ _).alloc _), (H5.out.2.2.2).no ((Turn.refl _ _).alloc _), At.new _ _⟩
                  generalize w5.alloc (.cells #[.int .i64 a2.code, .bool a2.found, .string a2.k, .string a2.v] 35) = u2 at H11 ⊢
                  generalize w5.heap.size = g19 at H11 ⊢
                  clear H5
                  have C := Lib.hid (om_do (H11.out.1.b) (H11.out.1).tu kd2 k2 v2 o2 h2 f2 A2 c2 ws2 HR.out.2.2.row.row HF.out.2.2  (by have := HLE.out; omega) (HM2.out.2.2) (HM2.out.2.1))
                  have y0 := (H11.out.2.2.1).cell 0
                  have y1 := (H11.out.2.2.1).cell 1
                  have y2 := (H11.out.2.2.1).cell 2
                  have y3 := (H11.out.2.2.1).cell 3
                  have y4 := (H11.out.2.2.1).cell 4
                  have y5 := (H11.out.2.2.1).cell 5
                  have y6 := (H11.out.2.2.1).cell 6
                  simp at y0 y1 y2 y3 y4 y5 y6
                  go_upto_region 36 with (go_at_call 16; refine C.out.mono ?_; rintro e w5 ⟨rfl, rq1, hom, hr, ht⟩; have H5 : Hid (Sc w w5 mp rp2 L2 mq rq1 L3 ∧ At w5 g4 (.cells #[.int .u8 kd1, .string k1, .string v1, .string o1, .bool h1, .bool f1, .slice A1 ws1.length c1] 39 (0, 0)) ∧ At w5 g5 (.cells #[.int .u8 kd2, .string k2, .string v2, .string o2, .bool h2, .bool f2, .slice A2 ws2.length c2] 39 (0, 0)) ∧ At w5 g18 (.cells #[.int .i64 a1.code, .bool a1.found, .string a1.k, .string a1.v] 35 (0, 0)) ∧ At w5 g19 (.cells #[.int .i64 a2.code, .bool a2.found, .string a2.k, .string a2.v] 35 (0, 0))) := Lib.hid ⟨((H11.out.1).swap.step hom hr ht).swap, (H11.out.1.b).keep (H11.out.2.1) (by decide) (by decide) ht, (H11.out.1.b).keep (H11.out.2.2.1) (by decide) (by decide) ht, (H11.out.1.b).keep (H11.out.2.2.2.1) (by decide) (by decide) ht, (H11.out.1.b).keep (H11.out.2.2.2.2) (by decide) (by decide) ht⟩; clear hom hr ht)
                  clear C H11 y0 y1 y2 y3 y4 y5 y6
                  have H12 : Hid (Sc w (w5.alloc (.cells #[.int .i64 a2.code, .bool a2.found, .string a2.k, .string a2.v] 35)) mp rp2 L2 mq rq1 L3 ∧ At (w5.alloc (.cells #[.int .i64 a2.code, .bool a2.found, .string a2.k, .string a2.v] 35)) g4 (.cells #[.int .u8 kd1, .string k1, .string v1, .string o1, .bool h1, .bool f1, .slice A1 ws1.length c1] 39 (0, 0)) ∧ At (w5.alloc (.cells #[.int .i64 a2.code, .bool a2.found, .string a2.k, .string a2.v] 35)) g5 (.cells #[.int .u8 kd2, .string k2, .string v2, .string o2, .bool h2, .bool f2, .slice A2 ws2.length c2] 39 (0, 0)) ∧ At (w5.alloc (.cells #[.int .i64 a2.code, .bool a2.found, .string a2.k, .string a2.v] 35)) g18 (.cells #[.int .i64 a1.code, .bool a1.found, .string a1.k, .string a1.v] 35 (0, 0)) ∧ At (w5.alloc (.cells #[.int .i64 a2.code, .bool a2.found, .string a2.k, .string a2.v] 35)) g19 (.cells #[.int .i64 a2.code, .bool a2.found, .string a2.k, .string a2.v] 35 (0, 0)) ∧ At (w5.alloc (.cells #[.int .i64 a2.code, .bool a2.found, .string a2.k, .string a2.v] 35)) w5.heap.size (.cells #[.int .i64 a2.code, .bool a2.found, .string a2.k, .string a2.v] 35 (0, 0))) := Lib.hid ⟨(H5.out.1).no ((Turn.refl _ _).alloc _), (H5.out.2.1).no ((Turn.refl _ _).alloc _), (H5.out.2.2.1).no ((Turn.refl _ _).alloc _), (H5.out.2.2.2.1).no ((Turn.refl _ _).alloc _), (H5.out.2.2.2.2).no ((Turn.refl _ _).alloc _), At.new _ _⟩
                  generalize w5.alloc (.cells #[.int .i64 a2.code, .bool a2.found, .string a2.k, .string a2.v] 35) = u3 at H12 ⊢
                  generalize w5.heap.size = g20 at H12 ⊢
                  clear H5
                  have C := Lib.hid (om_do (H12.out.1.b) (H12.out.1).tu kd1 k1 v1 o1 h1 f1 A1 c1 ws1 HR.out.2.1.row.row HF.out.2.1  (by have := HLE.out; omega) (HM.out.2.1) (HM.out.1))
                  have y0 := (H12.out.2.1).cell 0
                  have y1 := (H12.out.2.1).cell 1
                  have y2 := (H12.out.2.1).cell 2
                  have y3 := (H12.out.2.1).cell 3
                  have y4 := (H12.out.2.1).cell 4
                  have y5 := (H12.out.2.1).cell 5
                  have y6 := (H12.out.2.1).cell 6
                  simp at y0 y1 y2 y3 y4 y5 y6
                  go_upto_region 37 with (go_at_call 16; refine C.out.mono ?_; rintro e w5 ⟨rfl, rq2, hom, hr, ht⟩; have H5 : Hid (Sc w w5 mp rp2 L2 mq rq2 L2 ∧ At w5 g4 (.cells #[.int .u8 kd1, .string k1, .string v1, .string o1, .bool h1, .bool f1, .slice A1 ws1.length c1] 39 (0, 0)) ∧ At w5 g5 (.cells #[.int .u8 kd2, .string k2, .string v2, .string o2, .bool h2, .bool f2, .slice A2 ws2.length c2] 39 (0, 0)) ∧ At w5 g18 (.cells #[.int .i64 a1.code, .bool a1.found, .string a1.k, .string a1.v] 35 (0, 0)) ∧ At w5 g19 (.cells #[.int .i64 a2.code, .bool a2.found, .string a2.k, .string a2.v] 35 (0, 0)) ∧ At w5 g20 (.cells #[.int .i64 a2.code, .bool a2.found, .string a2.k, .string a2.v] 35 (0, 0))) := Lib.hid ⟨((H12.out.1).swap.step hom hr ht).swap, (H12.out.1.b).keep (H12.out.2.1) (by decide) (by decide) ht, (H12.out.1.b).keep (H12.out.2.2.1) (by decide) (by decide) ht, (H12.out.1.b).keep (H12.out.2.2.2.1) (by decide) (by decide) ht, (H12.out.1.b).keep (H12.out.2.2.2.2.1) (by decide) (by decide) ht, (H12.out.1.b).keep (H12.out.2.2.2.2.2) (by decide) (by decide) ht⟩; clear hom hr ht)
                  clear C H12 y0 y1 y2 y3 y4 y5 y6
                  have H13 : Hid (Sc w (w5.alloc (.cells #[.int .i64 a1.code, .bool a1.found, .string a1.k, .string a1.v] 35)) mp rp2 L2 mq rq2 L2 ∧ At (w5.alloc (.cells #[.int .i64 a1.code, .bool a1.found, .string a1.k, .string a1.v] 35)) g4 (.cells #[.int .u8 kd1, .string k1, .string v1, .string o1, .bool h1, .bool f1, .slice A1 ws1.length c1] 39 (0, 0)) ∧ At (w5.alloc (.cells #[.int .i64 a1.code, .bool a1.found, .string a1.k, .string a1.v] 35)) g5 (.cells #[.int .u8 kd2, .string k2, .string v2, .string o2, .bool h2, .bool f2, .slice A2 ws2.length c2] 39 (0, 0)) ∧ At (w5.alloc (.cells #[.int .i64 a1.code, .bool a1.found, .string a1.k, .string a1.v] 35)) g18 (.cells #[.int .i64 a1.code, .bool a1.found, .string a1.k, .string a1.v] 35 (0, 0)) ∧ At (w5.alloc (.cells #[.int .i64 a1.code, .bool a1.found, .string a1.k, .string a1.v] 35)) g19 (.cells #[.int .i64 a2.code, .bool a2.found, .string a2.k, .string a2.v] 35 (0, 0)) ∧ At (w5.alloc (.cells #[.int .i64 a1.code, .bool a1.found, .string a1.k, .string a1.v] 35)) g20 (.cells #[.int .i64 a2.code, .bool a2.found, .string a2.k, .string a2.v] 35 (0, 0)) ∧ At (w5.alloc (.cells #[.int .i64 a1.code, .bool a1.found, .string a1.k, .string a1.v] 35)) w5.heap.size (.cells #[.int .i64 a1.code, .bool a1.found, .string a1.k, .string a1.v] 35 (0, 0))) := Lib.hid ⟨(H5.out.1).no ((Turn.refl _ _).alloc _), (H5.out.2.1).no ((Turn.refl _ _).alloc _), (H5.out.2.2.1).no ((Turn.refl _ _).alloc _), (H5.out.2.2.2.1).no ((Turn.refl _ _).alloc _), (H5.out.2.2.2.2.1).no ((Turn.refl _ _).alloc _), (H5.out.2.2.2.2.2).no ((Turn.refl _ _).alloc _), At.new _ _⟩
                  generalize w5.alloc (.cells #[.int .i64 a1.code, .bool a1.found, .string a1.k, .string a1.v] 35) = u4 at H13 ⊢
                  generalize w5.heap.size = g21 at H13 ⊢
                  clear H5
                  have C5 := Lib.hid (all_any H13.out.1.a)
                  go_upto_region 38 with (go_at_call 14; refine C5.out.mono ?_; rintro e u5 ⟨b5, rfl, ho, ht⟩; have H14 : Hid (Sc w u5 mp rp2 L2 mq rq2 L2 ∧ Row u5 (some ⟨b5, 0, none⟩) (pcs L2) ∧ At u5 g18 (.cells #[.int .i64 a1.code, .bool a1.found, .string a1.k, .string a1.v] 35 (0, 0)) ∧ At u5 g19 (.cells #[.int .i64 a2.code, .bool a2.found, .string a2.k, .string a2.v] 35 (0, 0)) ∧ At u5 g20 (.cells #[.int .i64 a2.code, .bool a2.found, .string a2.k, .string a2.v] 35 (0, 0)) ∧ At u5 g21 (.cells #[.int .i64 a1.code, .bool a1.found, .string a1.k, .string a1.v] 35 (0, 0))) := Lib.hid ⟨H13.out.1.no ht, row_of_own ho, (H13.out.2.2.2.1).no ht, (H13.out.2.2.2.2.1).no ht, (H13.out.2.2.2.2.2.1).no ht, (H13.out.2.2.2.2.2.2).no ht⟩; clear ho ht)
                  clear C5 H13
                  have C6 := Lib.hid (all_any H14.out.1.b)
                  go_upto_region 39 with (go_at_call 14; refine C6.out.mono ?_; rintro e u6 ⟨b6, rfl, ho, ht⟩; have H15 : Hid (Turn No w u6 ∧ Row u6 (some ⟨b5, 0, none⟩) (pcs L2) ∧ Row u6 (some ⟨b6, 0, none⟩) (pcs L2) ∧ At u6 g18 (.cells #[.int .i64 a1.code, .bool a1.found, .string a1.k, .string a1.v] 35 (0, 0)) ∧ At u6 g19 (.cells #[.int .i64 a2.code, .bool a2.found, .string a2.k, .string a2.v] 35 (0, 0)) ∧ At u6 g20 (.cells #[.int .i64 a2.code, .bool a2.found, .string a2.k, .string a2.v] 35 (0, 0)) ∧ At u6 g21 (.cells #[.int .i64 a1.code, .bool a1.found, .string a1.k, .string a1.v] 35 (0, 0))) := Lib.hid ⟨H14.out.1.tu.trans ht, H14.out.2.1.no ht, row_of_own ho, (H14.out.2.2.1).no ht, (H14.out.2.2.2.1).no ht, (H14.out.2.2.2.2.1).no ht, (H14.out.2.2.2.2.2).no ht⟩; clear ho ht)
                  clear C6 H14
                  have y00 := (H15.out.2.2.2.1).cell 0
                  have y01 := (H15.out.2.2.2.1).cell 1
                  have y02 := (H15.out.2.2.2.1).cell 2
                  have y03 := (H15.out.2.2.2.1).cell 3
                  have y10 := (H15.out.2.2.2.2.1).cell 0
                  have y11 := (H15.out.2.2.2.2.1).cell 1
                  have y12 := (H15.out.2.2.2.2.1).cell 2
                  have y13 := (H15.out.2.2.2.2.1).cell 3
                  have y20 := (H15.out.2.2.2.2.2.1).cell 0
                  have y21 := (H15.out.2.2.2.2.2.1).cell 1
                  have y22 := (H15.out.2.2.2.2.2.1).cell 2
                  have y23 := (H15.out.2.2.2.2.2.1).cell 3
                  have y30 := (H15.out.2.2.2.2.2.2).cell 0
                  have y31 := (H15.out.2.2.2.2.2.2).cell 1
                  have y32 := (H15.out.2.2.2.2.2.2).cell 2
                  have y33 := (H15.out.2.2.2.2.2.2).cell 3
                  simp at y00 y01 y02 y03 y10 y11 y12 y13 y20 y21 y22 y23 y30 y31 y32 y33
                  have q1 := fun W => neq_ans a1.code a1.code a1.found a1.found a1.k a1.k a1.v a1.v W
                  have q2 := fun W => neq_ans a2.code a2.code a2.found a2.found a2.k a2.k a2.v a2.v W
                  rw [ansEq_same] at q1 q2
                  have n2 : L2.length ≤ 300 := HLE.out.2.2.2
                  go_wp2_with fail
                  go_loopw [24] (fun x wr => ∃ i : Nat, i ≤ L2.length ∧ x = .int .i64 (i : Int) ∧ Hid (Turn No u6 wr)) (fun x _ => L2.length - (RowKit.intOf x).toNat)
                  case atStart => exact ⟨0, Nat.zero_le _, rfl, Lib.hid (Turn.refl _ _)⟩
                  case round =>
                    obtain ⟨i, hi, rfl, HP⟩ := hrel
                    clear y00 y01 y02 y03 y10 y11 y12 y13 y20 y21 y22 y23 y30 y31 y32 y33
                    by_cases hlt : i < L2.length
                    · obtain ⟨p, hp⟩ : ∃ p, L2[i]? = some p := ⟨L2[i], List.getElem?_eq_getElem hlt⟩
                      have x0 := ((H15.out.2.1.no HP.out).at0 hp).1
                      have x1 := ((H15.out.2.1.no HP.out).at0 hp).2
                      have x2 := ((H15.out.2.2.1.no HP.out).at0 hp).1
                      have x3 := ((H15.out.2.2.1.no HP.out).at0 hp).2
                      have qn := fun W => neq_pr p.k p.k p.v p.v W
                      rw [prEq_dec p p, decide_eq_true rfl] at qn
                      obtain ⟨pk, pv⟩ := p
                      simp only at x0 x1 x2 x3 qn
                      have hr1 : (0 : Int) ≤ (i : Int) := by omega
                      have hr2 : (i : Int) < (L2.length : Int) := by omega
                      clear hp
                      go_wp2_with fail
                      go_quiet (fail)
                      all_goals go_wp2_with fail
                      all_goals exact ⟨⟨i + 1, by omega, by go_num, Lib.hid (HP.out.drewN _)⟩, by simp [RowKit.intOf]; omega⟩
                    · obtain rfl : i = L2.length := by omega
                      go_wp2_with (go_at_call 10; refine (CW.out _).mono ?_; rintro e w9 ⟨rfl, ht⟩)
                      go_ret
                      exact ⟨rfl, (H15.out.1.trans HP.out).trans ht⟩
end Go.Proofs.Ytjjmooegpoeomaa
