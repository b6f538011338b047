/-
  The document's Check of a witness: its walk.
  The document's Check of a witness: its walk.
-/
import Derived.Test.YtllppkfeiifklaaJ30
namespace Go.Proofs.Ytllppkfeiifklaa
open Go.RowKit Go.Lib
set_option linter.unusedVariables false
set_option maxRecDepth 20000
set_option maxRecDepth 20000
set_option linter.unusedSimpArgs false

set_option maxRecDepth 100000 in
set_option maxHeartbeats 16000000 in
theorem rlcheck_any (S : List Pr) (A : Option Addr) (cap : Nat) (l : List Ev) (ps : List (List Wr)) (B : Option Addr) (cap2 : Nat) (w : World) (hS : InP w A S.length cap S) (hn : S.length ≤ 100) (hE : InE w B cap2 l ps) :
    Calls Try.prog 12 #[.slice A S.length cap, .slice B l.length cap2] w fun r w' => (∃ a c, r = .returned (.tuple #[.int .i64 a, .int .i64 c]) ∧ LinC l ps (news S) a c) ∧ Turn No w w' := by
  have hll : l.length ≤ 200 := hE.few.len
  have C31 := Lib.hid (refcheck_any l B cap2 w hE.row (by omega) hE.cap)
  have HR := Lib.hid (And.intro hS hE)
  have HSM0 := Lib.hid (new_sim S)
  have HM0 := Lib.hid (And.intro (asc_news S) (news_few hn))
  obtain ⟨M0, hM0⟩ : ∃ M, news S = M := ⟨_, rfl⟩
  have HFT := Lib.hid (show ∀ p ∈ M0, Fit p.k ∧ Fit p.v from fun p hp => hS.fit p (news_sub p (by rw [hM0]; exact hp)))
  rw [hM0] at HSM0 HM0 ⊢
  clear hS hE hM0
  go_enter Try.func12, Try.ntmps12
  go_upto_if 20 with (go_at_call 32; refine C31.out.mono ?_; rintro e w1 ⟨at_, code, rfl, hc, ht⟩; have H1 := Lib.hid (And.intro hc ht); clear hc ht)
  clear C31
  by_cases hz : code = 0
  · subst hz
    have HRT : Hid (Right l) := Lib.hid (by
      rcases H1.out.1 with ⟨h, _⟩ | ⟨n, _, _, h⟩
      · exact h
      · cases h)
    have C32 := Lib.hid (rnew_any S A cap w1 (HR.out.1.row.no H1.out.2) (by omega))
    go_upto_region 5 with (go_at_call 33; refine C32.out.mono ?_; rintro e w2 ⟨B0, c0, rfl, ho, ht⟩; have H2 := Lib.hid (And.intro ho ht); clear ho ht)
    have HD0 : Hid (Dm w (w2.alloc (.cells #[.slice B0 (newR S).length c0] 60)) w2.heap.size (newR S) (newR S).length B0 c0) := Lib.hid (by
      have t2 : Turn No w2 (w2.alloc (.cells #[.slice B0 (newR S).length c0] 60)) := (Turn.refl _ _).alloc _
      have ho : (w2.alloc (.cells #[.slice B0 (newR S).length c0] 60)).ownsRow w1.heap.size 47 2 (.slice B0 (newR S).length c0) (newR S).length (pcs (newR S)) := own_grown H2.out.1 t2 (fun _ _ h => h)
      exact ⟨(H1.out.2.trans H2.out.2).trans t2, At.new _ _, ho.mono H1.out.2.size, rfl, (H1.out.2.trans H2.out.2).size⟩)
    clear H2 C32 H1
    generalize w2.alloc (.cells #[.slice B0 (newR S).length c0] 60) = w3 at HD0 ⊢
    generalize w2.heap.size = g8 at HD0 ⊢
    have HD1 : Hid (∃ R m B c, Dm w w3 g8 R m B c ∧ Sim R (lnM l ps M0 0) ∧ Upto l ps M0 0) := Lib.hid ⟨_, _, _, _, HD0.out, HSM0.out, Upto.zero _ _ _⟩
    clear HD0 HSM0
    go_wp2_with fail
    go_loopw [9] (fun x wr => ∃ i : Nat, i ≤ l.length ∧ x = .int .i64 (i : Int) ∧ Hid (∃ R m B c, Dm w wr g8 R m B c ∧ Sim R (lnM l ps M0 i) ∧ Upto l ps M0 i)) (fun x _ => l.length - (RowKit.intOf x).toNat)
    case atStart => exact ⟨0, Nat.zero_le _, rfl, HD1⟩
    case round =>
      obtain ⟨i, hi, rfl, HQ⟩ := hrel
      clear HD1
      obtain ⟨R', m', B', c', hp, hs, hu⟩ := HQ.out
      obtain ⟨R, hR'⟩ : ∃ x, x = R' := ⟨_, rfl⟩
      subst hR'
      obtain ⟨m, hm'⟩ : ∃ x, x = m' := ⟨_, rfl⟩
      subst hm'
      obtain ⟨Bm, hB'⟩ : ∃ x, x = B' := ⟨_, rfl⟩
      subst hB'
      obtain ⟨cm, hc'⟩ : ∃ x, x = c' := ⟨_, rfl⟩
      subst hc'
      have HP := Lib.hid hp
      have HSM := Lib.hid hs
      have HU := Lib.hid hu
      clear hp hs hu HQ
      by_cases hlt : i < l.length
      · obtain ⟨e, he⟩ : ∃ e, l[i]? = some e := ⟨l[i], List.getElem?_eq_getElem hlt⟩
        have HE := Lib.hid he
        obtain ⟨b, o, hB, hec⟩ := ec_of HR.out.2.row he
        have HEC := Lib.hid hec
        obtain ⟨x0, x1, x9, x10, x11, x12⟩ := hec wr HP.out.tu
        subst hB
        have hq1 : (0 : Int) ≤ (i : Int) := by omega
        have hq2 : (i : Int) < (l.length : Int) := by omega
        have C33 := Lib.hid fun W => ridle_any e.an W
        have HML : Hid ((lnM l ps M0 i).length ≤ 20000) := Lib.hid (by have := lnM_len HR.out.2.few HR.out.2.rws.len M0 i hi; have := HM0.out.2; omega)
        clear he hec
        go_upto_region 8 with fail
        go_cut [44] from 31 to 44 (fun s wx => s = .bool (!actB e) ∧ Hid (Turn No wr wx))
        case first =>
          by_cases hk : e.kind = 2
          · have hk1 : (e.kind != 2) = false := by simp [hk]
            have HA : Hid (actB e = !idleA e.an) := Lib.hid (by simp [actB, hk])
            clear hk
            go_wp2_with (go_at_call 34; (with_reducible refine (C33.out _).mono ?_); rintro e2 w4 ⟨rfl, ht⟩)
            go_meet
            exact ⟨by rw [HA.out, Bool.not_not], Lib.hid ht⟩
          · have hk1 : (e.kind != 2) = true := by simpa using hk
            have HA : Hid (actB e = false) := Lib.hid (by simp [actB, hk])
            clear hk
            go_wp2_with fail
            go_meet
            exact ⟨by rw [HA.out]; rfl, Lib.hid (Turn.refl _ _)⟩
        case rest =>
          obtain ⟨rfl, HT⟩ := hcut
          generalize wc = w4 at HT ⊢
          have HP2 := Lib.hid (HP.out.no HT.out)
          clear HP HT C33 x0 x1 x9 x10 x11 x12
          cases hact : actB e with
          | false =>
            have HA := Lib.hid hact
            clear hact
            go_wp2_with fail
            exact ⟨⟨i + 1, by omega, by go_num, Lib.hid ⟨R, m, Bm, cm, HP2.out, by rw [lnM_skip HE.out HA.out]; exact HSM.out, HU.out.snoc HE.out (lnOk_skip HA.out)⟩⟩, by simp [RowKit.intOf]; omega⟩
          | true =>
            as_aux_lemma =>
              have HA := Lib.hid hact
              clear hact
              obtain ⟨x0, x1, x9, x10, x11, x12⟩ := HEC.out w4 HP2.out.tu
              clear x9 x10 x11 x12 x0
              have hin := HR.out.2.no HP2.out.tu
              have C34 := Lib.hid (refstate_any e.id l ps (some ⟨b, o, none⟩) cap2 w4 hin.row hin.rws (by omega))
              have hsw := stW_len hin.rws e.id
              have HSW := Lib.hid hsw
              obtain ⟨sa, hsa⟩ : ∃ a, stA l e.id = a := ⟨_, rfl⟩
              rw [hsa] at C34
              clear hin hsw hsa
              go_upto_region 10 with (go_at_call 35; refine C34.out.mono ?_; rintro e2 w5 ⟨⟨ok, k, v, ov, had, aft, A1, len1, c1⟩, rfl, ht, hp, hrow⟩; have H5 := Lib.hid (And.intro (HP2.out.no ht) (And.intro hp.symm hrow)); clear ht hp hrow; simp only [Opx.valH, Ans.valH])
              clear C34 x1
              have hst := H5.out.2.1
              unfold Opx.pure at hst
              simp only at hst
              have hlen1 : (stW l ps e.id).length = len1 := by rw [HSW.out, hst]
              subst hlen1
              have HST := Lib.hid hst
              clear hst
              have t6 : Turn No w5 ((w5.alloc (.cells #[.int .u8 ok, .string k, .string v, .string ov, .bool had, .bool aft, .slice A1 (stW l ps e.id).length c1] 34)).alloc (.cells #[.int .i64 sa.code, .bool sa.found, .string sa.k, .string sa.v] 38)) := ((Turn.refl _ _).alloc _).alloc _
              have H6 : Hid (Dm w ((w5.alloc (.cells #[.int .u8 ok, .string k, .string v, .string ov, .bool had, .bool aft, .slice A1 (stW l ps e.id).length c1] 34)).alloc (.cells #[.int .i64 sa.code, .bool sa.found, .string sa.k, .string sa.v] 38)) g8 R m Bm cm ∧ Row ((w5.alloc (.cells #[.int .u8 ok, .string k, .string v, .string ov, .bool had, .bool aft, .slice A1 (stW l ps e.id).length c1] 34)).alloc (.cells #[.int .i64 sa.code, .bool sa.found, .string sa.k, .string sa.v] 38)) A1 (wcs (stW l ps e.id)) ∧ At ((w5.alloc (.cells #[.int .u8 ok, .string k, .string v, .string ov, .bool had, .bool aft, .slice A1 (stW l ps e.id).length c1] 34)).alloc (.cells #[.int .i64 sa.code, .bool sa.found, .string sa.k, .string sa.v] 38)) w5.heap.size (.cells #[.int .u8 ok, .string k, .string v, .string ov, .bool had, .bool aft, .slice A1 (stW l ps e.id).length c1] 34 (0, 0))) := Lib.hid ⟨H5.out.1.no t6, H5.out.2.2.no t6, (At.new _ _).no ((Turn.refl _ _).alloc _)⟩
              clear t6 H5
              generalize ((w5.alloc (.cells #[.int .u8 ok, .string k, .string v, .string ov, .bool had, .bool aft, .slice A1 (stW l ps e.id).length c1] 34)).alloc (.cells #[.int .i64 sa.code, .bool sa.found, .string sa.k, .string sa.v] 38)) = w6 at H6 ⊢
              generalize w5.heap.size = g10 at H6 ⊢
              go_upto_region 11 with fail
              have t7 : Turn No w6 (w6.alloc (.cells #[.int .i64 0, .bool false, .string ⟨#[]⟩, .string ⟨#[]⟩] 38)) := (Turn.refl _ _).alloc _
              have H7 : Hid (Dm w (w6.alloc (.cells #[.int .i64 0, .bool false, .string ⟨#[]⟩, .string ⟨#[]⟩] 38)) g8 R m Bm cm ∧ Row (w6.alloc (.cells #[.int .i64 0, .bool false, .string ⟨#[]⟩, .string ⟨#[]⟩] 38)) A1 (wcs (stW l ps e.id)) ∧ At (w6.alloc (.cells #[.int .i64 0, .bool false, .string ⟨#[]⟩, .string ⟨#[]⟩] 38)) g10 (.cells #[.int .u8 ok, .string k, .string v, .string ov, .bool had, .bool aft, .slice A1 (stW l ps e.id).length c1] 34 (0, 0)) ∧ At (w6.alloc (.cells #[.int .i64 0, .bool false, .string ⟨#[]⟩, .string ⟨#[]⟩] 38)) w6.heap.size (.cells #[.int .i64 0, .bool false, .string ⟨#[]⟩, .string ⟨#[]⟩] 38 (0, 0)) ∧ w.heap.size ≤ w6.heap.size) := Lib.hid ⟨H6.out.1.no t7, H6.out.2.1.no t7, H6.out.2.2.no t7, At.new _ _, H6.out.1.tu.size⟩
              clear t7 H6
              generalize w6.alloc (.cells #[.int .i64 0, .bool false, .string ⟨#[]⟩, .string ⟨#[]⟩] 38) = w7 at H7 ⊢
              generalize w6.heap.size = g13 at H7 ⊢
              obtain ⟨R2, hR2⟩ : ∃ x, doR R ok k v ov had aft (stW l ps e.id) = x := ⟨_, rfl⟩
              obtain ⟨aa, haa⟩ : ∃ x, doA (lnM l ps M0 i) ok k v ov had aft (stW l ps e.id) = x := ⟨_, rfl⟩
              have HAA : Hid (opA (lnM l ps M0 i) (stO l e.id) (stW l ps e.id) = aa ∧ Sim R2 (lnM l ps M0 (i + 1))) := Lib.hid ⟨by rw [HST.out, ← haa]; rfl, by rw [lnM_act HE.out HA.out, HST.out, ← hR2]; exact HSM.out.doR (asc_lnM HM0.out.1 i) ok k v ov had aft (stW l ps e.id)⟩
              have CR : Hid (Calls Try.prog 36 #[.agg #[.slice Bm m cm], .agg #[.int .u8 ok, .string k, .string v, .string ov, .bool had, .bool aft, .slice A1 (stW l ps e.id).length c1]] w7 (RDo w.heap.size w7 (.slice Bm m cm) R2 aa)) := Lib.hid (by
                have hm := H7.out.1.hm
                have hfw := HR.out.2.few.st HR.out.2.rws.len e.id
                rw [HST.out] at hfw
                have hff := few_fit hfw
                have hlm := FitL.ln HFT.out HR.out.2.few HR.out.2.rws.len i
                have := rdo_any R (lnM l ps M0 i) Bm cm ok k v ov had aft A1 c1 (stW l ps e.id) w7 (Z := w.heap.size) H7.out.1.tu.size (by rw [hm]; exact H7.out.1.row) (by have h1 := HML.out; have h2 := HSM.out.len; have h3 := hfw.n; omega) (fun p hp => hlm p (HSM.out.mem hp)) HSM.out (asc_lnM HM0.out.1 i) H7.out.2.1 hff.1 hff.2
                rw [hm, hR2, haa] at this
                exact this)
              clear hR2 haa
              have z0 := H7.out.1.box.cell 0
              have y0 := H7.out.2.2.1.cell 0
              have y1 := H7.out.2.2.1.cell 1
              have y2 := H7.out.2.2.1.cell 2
              have y3 := H7.out.2.2.1.cell 3
              have y4 := H7.out.2.2.1.cell 4
              have y5 := H7.out.2.2.1.cell 5
              have y6 := H7.out.2.2.1.cell 6
              simp at z0 y0 y1 y2 y3 y4 y5 y6
              have n813 : ¬ g8 = g13 := fun e2 => by
                subst e2
                have := H7.out.1.box.eq H7.out.2.2.2.1
                injection this with _ e3 _
                exact absurd e3 (by decide)
              have n138 : ¬ g13 = g8 := fun e2 => n813 e2.symm
              go_upto_region 12 with (go_at_call 36; refine CR.out.mono ?_; rintro e2 w8 ⟨B2, c2, rfl, ho, hold, ht⟩; have H8 : Hid (Dm w w8 g8 R m Bm cm ∧ At w8 g13 (.cells #[.int .i64 0, .bool false, .string ⟨#[]⟩, .string ⟨#[]⟩] 38 (0, 0)) ∧ w8.ownsRow w.heap.size 47 2 (.slice B2 R2.length c2) R2.length (pcs R2)) := Lib.hid ⟨H7.out.1.no ht, H7.out.2.2.2.1.no ht, ho⟩; clear ho hold ht; have z0 := H8.out.1.box.cell 0; have zf := H8.out.1.box.thawed 0; have d0 := H8.out.2.1.cell 0; have d1 := H8.out.2.1.cell 1; have d2 := H8.out.2.1.cell 2; have d3 := H8.out.2.1.cell 3; have f0 := H8.out.2.1.thawed 0; have f1 := H8.out.2.1.thawed 1; have f2 := H8.out.2.1.thawed 2; have f3 := H8.out.2.1.thawed 3; simp at z0 d0 d1 d2 d3)
              have H9 : Hid (Dm w (((((w8.setCell ⟨g8, 0, none⟩ (.slice B2 R2.length c2)).setCell ⟨g13, 0, none⟩ (.int .i64 aa.code)).setCell ⟨g13, 1, none⟩ (.bool aa.found)).setCell ⟨g13, 2, none⟩ (.string aa.k)).setCell ⟨g13, 3, none⟩ (.string aa.v)) g8 R2 R2.length B2 c2 ∧ At (((((w8.setCell ⟨g8, 0, none⟩ (.slice B2 R2.length c2)).setCell ⟨g13, 0, none⟩ (.int .i64 aa.code)).setCell ⟨g13, 1, none⟩ (.bool aa.found)).setCell ⟨g13, 2, none⟩ (.string aa.k)).setCell ⟨g13, 3, none⟩ (.string aa.v)) g13 (.cells #[.int .i64 aa.code, .bool aa.found, .string aa.k, .string aa.v] 38 (0, 0))) := Lib.hid (by
                have a8 := H8.out.2.1.turn (Turn.set1 w8 g8 0 (.slice B2 R2.length c2)) n138
                exact ⟨(H8.out.1.put H8.out.2.2 rfl).set a8 H7.out.2.2.2.2 (turn4 _ g13 0 1 2 3 _ _ _ _), at_put4 a8 _ _ _ _⟩)
              clear H8 H7 CR z0 y0 y1 y2 y3 y4 y5 y6
              generalize ((((w8.setCell ⟨g8, 0, none⟩ (.slice B2 R2.length c2)).setCell ⟨g13, 0, none⟩ (.int .i64 aa.code)).setCell ⟨g13, 1, none⟩ (.bool aa.found)).setCell ⟨g13, 2, none⟩ (.string aa.k)).setCell ⟨g13, 3, none⟩ (.string aa.v) = w9 at H9 ⊢
              obtain ⟨ean, hean⟩ : ∃ a, e.an = a := ⟨_, rfl⟩
              have HEAN := Lib.hid hean
              clear hean
              obtain ⟨ec, ef, ek, ev⟩ := ean
              obtain ⟨ac, af, ak, av⟩ := aa
              have CSS : Hid (∀ W, Turn No w9 W → (W.cell? ⟨g13, 0, none⟩ = some (.int .i64 ac) ∧ W.cell? ⟨g13, 1, none⟩ = some (.bool af) ∧ W.cell? ⟨g13, 2, none⟩ = some (.string ak) ∧ W.cell? ⟨g13, 3, none⟩ = some (.string av)) ∧ W.cell? ⟨b, o + i * 13 + 9, none⟩ = some (.int .i64 ec) ∧ W.cell? ⟨b, o + i * 13 + 9 + 1, none⟩ = some (.bool ef) ∧ W.cell? ⟨b, o + i * 13 + 9 + 2, none⟩ = some (.string ek) ∧ W.cell? ⟨b, o + i * 13 + 9 + 3, none⟩ = some (.string ev)) := Lib.hid fun W t => by
                obtain ⟨_, _, b9, b10, b11, b12⟩ := HEC.out W (H9.out.1.tu.trans t)
                rw [HEAN.out] at b9 b10 b11 b12
                have h2 := H9.out.2.no t
                exact ⟨⟨h2.cell 0, h2.cell 1, h2.cell 2, h2.cell 3⟩, b9, b10, b11, b12⟩
              have hS0 := CSS.out w9.drew (Turn.refl No w9).drew
              by_cases hae : (⟨ac, af, ak, av⟩ : Ans) = ⟨ec, ef, ek, ev⟩
              · have HN : Hid (lnOk l ps (lnM l ps M0 i) e = true) := Lib.hid (by rw [lnOk_act HA.out, HAA.out.1, HEAN.out]; exact decide_eq_true hae)
                injection hae with h1 h2 h3 h4
                subst h1 h2 h3 h4
                have qn := fun W => neq_ans ac ac af af ak ak av av W
                rw [ansEq_same] at qn
                go_region_held3 (fun W => (W.cell? ⟨g13, 0, none⟩ = some (.int .i64 ac) ∧ W.cell? ⟨g13, 1, none⟩ = some (.bool af) ∧ W.cell? ⟨g13, 2, none⟩ = some (.string ak) ∧ W.cell? ⟨g13, 3, none⟩ = some (.string av)) ∧ W.cell? ⟨b, o + i * 13 + 9, none⟩ = some (.int .i64 ac) ∧ W.cell? ⟨b, o + i * 13 + 9 + 1, none⟩ = some (.bool af) ∧ W.cell? ⟨b, o + i * 13 + 9 + 2, none⟩ = some (.string ak) ∧ W.cell? ⟨b, o + i * 13 + 9 + 3, none⟩ = some (.string av)) (with_reducible exact hS0) (fail)
                go_wp2_with fail
                exact ⟨⟨i + 1, by omega, by go_num, Lib.hid ⟨R2, _, B2, c2, H9.out.1.no (Turn.refl No w9).drew, HAA.out.2, HU.out.snoc HE.out HN.out⟩⟩, by simp [RowKit.intOf]; omega⟩
              · have HN : Hid (lnOk l ps (lnM l ps M0 i) e = false) := Lib.hid (by rw [lnOk_act HA.out, HAA.out.1, HEAN.out]; exact decide_eq_false hae)
                have qn := fun W => neq_ans ac ec af ef ak ek av ev W
                have hbe : ansEq ac ec af ef ak ek av ev = false := by
                  rw [Bool.eq_false_iff, Ne, ansEq_iff]; exact hae
                rw [hbe] at qn
                clear hbe hae
                go_region_held3 (fun W => (W.cell? ⟨g13, 0, none⟩ = some (.int .i64 ac) ∧ W.cell? ⟨g13, 1, none⟩ = some (.bool af) ∧ W.cell? ⟨g13, 2, none⟩ = some (.string ak) ∧ W.cell? ⟨g13, 3, none⟩ = some (.string av)) ∧ W.cell? ⟨b, o + i * 13 + 9, none⟩ = some (.int .i64 ec) ∧ W.cell? ⟨b, o + i * 13 + 9 + 1, none⟩ = some (.bool ef) ∧ W.cell? ⟨b, o + i * 13 + 9 + 2, none⟩ = some (.string ek) ∧ W.cell? ⟨b, o + i * 13 + 9 + 3, none⟩ = some (.string ev)) (with_reducible exact hS0) (fail)
                go_wp2_with fail
                go_ret2
                exact ⟨⟨_, _, rfl, .inr ⟨HRT.out, .inr ⟨i, e, rfl, rfl, HE.out, HU.out, HN.out⟩⟩⟩, H9.out.1.tu.drew⟩
      · obtain rfl : i = l.length := by omega
        have HL : Hid (Lin l ps M0 (-1) 0) := Lib.hid (.inl ⟨rfl, rfl, HU.out⟩)
        go_wp2_with fail
        go_ret2
        exact ⟨⟨_, _, rfl, .inr ⟨HRT.out, HL.out⟩⟩, HP.out.tu⟩
  · have hz1 : (code == 0) = false := by simpa using hz
    have hz2 : (code != 0) = true := by simpa using hz
    have HZ := Lib.hid hz
    clear hz
    go_wp2_with fail
    go_ret2
    exact ⟨⟨_, _, rfl, .inl ⟨H1.out.1, HZ.out⟩⟩, H1.out.2⟩
end Go.Proofs.Ytllppkfeiifklaa
namespace Go.Proofs.Ytllppkfeiifklaa
open Go.RowKit Go.Lib
set_option linter.unusedVariables false
set_option maxRecDepth 20000
set_option maxRecDepth 20000
set_option linter.unusedSimpArgs false

set_option maxRecDepth 100000 in
set_option maxHeartbeats 16000000 in
theorem rlafter_any (S : List Pr) (A : Option Addr) (cap : Nat) (l : List Ev) (ps : List (List Wr)) (B : Option Addr) (cap2 : Nat) (w : World) (hS : InP w A S.length cap S) (hn : S.length ≤ 100) (hE : InE w B cap2 l ps) :
    Calls Try.prog 18 #[.slice A S.length cap, .slice B l.length cap2] w fun r w' => ∃ X B c, r = .returned (.slice B X.length c) ∧ Row w' B (pcs X) ∧ Turn No w w' ∧ ((Right l ∧ X = lnM l ps (news S) l.length) ∨ (¬ Right l ∧ X = [])) := by
  have hll : l.length ≤ 200 := hE.few.len
  have C31 := Lib.hid (refcheck_any l B cap2 w hE.row (by omega) hE.cap)
  have HR := Lib.hid (And.intro hS hE)
  have HSM0 := Lib.hid (new_sim S)
  have HM0 := Lib.hid (And.intro (asc_news S) (news_few hn))
  obtain ⟨M0, hM0⟩ : ∃ M, news S = M := ⟨_, rfl⟩
  have HFT := Lib.hid (show ∀ p ∈ M0, Fit p.k ∧ Fit p.v from fun p hp => hS.fit p (news_sub p (by rw [hM0]; exact hp)))
  rw [hM0] at HSM0 HM0 ⊢
  clear hS hE hM0
  go_enter Try.func18, Try.ntmps18
  go_upto_if 18 with (go_at_call 32; refine C31.out.mono ?_; rintro e w1 ⟨at_, code, rfl, hc, ht⟩; have H1 := Lib.hid (And.intro hc ht); clear hc ht)
  clear C31
  by_cases hz : code = 0
  · subst hz
    have HRT : Hid (Right l) := Lib.hid (by
      rcases H1.out.1 with ⟨h, _⟩ | ⟨n, _, _, h⟩
      · exact h
      · cases h)
    have C32 := Lib.hid (rnew_any S A cap w1 (HR.out.1.row.no H1.out.2) (by omega))
    go_upto_region 5 with (go_at_call 33; refine C32.out.mono ?_; rintro e w2 ⟨B0, c0, rfl, ho, ht⟩; have H2 := Lib.hid (And.intro ho ht); clear ho ht)
    have HD0 : Hid (Dm w (w2.alloc (.cells #[.slice B0 (newR S).length c0] 60)) w2.heap.size (newR S) (newR S).length B0 c0) := Lib.hid (by
      have t2 : Turn No w2 (w2.alloc (.cells #[.slice B0 (newR S).length c0] 60)) := (Turn.refl _ _).alloc _
      have ho : (w2.alloc (.cells #[.slice B0 (newR S).length c0] 60)).ownsRow w1.heap.size 47 2 (.slice B0 (newR S).length c0) (newR S).length (pcs (newR S)) := own_grown H2.out.1 t2 (fun _ _ h => h)
      exact ⟨(H1.out.2.trans H2.out.2).trans t2, At.new _ _, ho.mono H1.out.2.size, rfl, (H1.out.2.trans H2.out.2).size⟩)
    clear H2 C32 H1
    generalize w2.alloc (.cells #[.slice B0 (newR S).length c0] 60) = w3 at HD0 ⊢
    generalize w2.heap.size = g8 at HD0 ⊢
    have HD1 : Hid (∃ R m B c, Dm w w3 g8 R m B c ∧ Sim R (lnM l ps M0 0)) := Lib.hid ⟨_, _, _, _, HD0.out, HSM0.out⟩
    clear HD0 HSM0
    go_wp2_with fail
    go_loopw [8] (fun x wr => ∃ i : Nat, i ≤ l.length ∧ x = .int .i64 (i : Int) ∧ Hid (∃ R m B c, Dm w wr g8 R m B c ∧ Sim R (lnM l ps M0 i))) (fun x _ => l.length - (RowKit.intOf x).toNat)
    case atStart => exact ⟨0, Nat.zero_le _, rfl, HD1⟩
    case round =>
      obtain ⟨i, hi, rfl, HQ⟩ := hrel
      clear HD1
      obtain ⟨R', m', B', c', hp, hs⟩ := HQ.out
      obtain ⟨R, hR'⟩ : ∃ x, x = R' := ⟨_, rfl⟩
      subst hR'
      obtain ⟨m, hm'⟩ : ∃ x, x = m' := ⟨_, rfl⟩
      subst hm'
      obtain ⟨Bm, hB'⟩ : ∃ x, x = B' := ⟨_, rfl⟩
      subst hB'
      obtain ⟨cm, hc'⟩ : ∃ x, x = c' := ⟨_, rfl⟩
      subst hc'
      have HP := Lib.hid hp
      have HSM := Lib.hid hs
      clear hp hs HQ
      by_cases hlt : i < l.length
      · obtain ⟨e, he⟩ : ∃ e, l[i]? = some e := ⟨l[i], List.getElem?_eq_getElem hlt⟩
        have HE := Lib.hid he
        obtain ⟨b, o, hB, hec⟩ := ec_of HR.out.2.row he
        have HEC := Lib.hid hec
        obtain ⟨x0, x1, x9, x10, x11, x12⟩ := hec wr HP.out.tu
        subst hB
        have hq1 : (0 : Int) ≤ (i : Int) := by omega
        have hq2 : (i : Int) < (l.length : Int) := by omega
        have C33 := Lib.hid fun W => ridle_any e.an W
        have HML : Hid ((lnM l ps M0 i).length ≤ 20000) := Lib.hid (by have := lnM_len HR.out.2.few HR.out.2.rws.len M0 i hi; have := HM0.out.2; omega)
        clear he hec
        go_upto_region 8 with fail
        go_cut [41] from 27 to 41 (fun s wx => s = .bool (actB e) ∧ Hid (Turn No wr wx))
        case first =>
          by_cases hk : e.kind = 2
          · have hk1 : (e.kind == 2) = true := by simp [hk]
            have HA : Hid (actB e = !idleA e.an) := Lib.hid (by simp [actB, hk])
            clear hk
            go_wp2_with (go_at_call 34; (with_reducible refine (C33.out _).mono ?_); rintro e2 w4 ⟨rfl, ht⟩)
            go_meet
            exact ⟨by rw [HA.out], Lib.hid ht⟩
          · have hk1 : (e.kind == 2) = false := by simpa using hk
            have HA : Hid (actB e = false) := Lib.hid (by simp [actB, hk])
            clear hk
            go_wp2_with fail
            go_meet
            exact ⟨by rw [HA.out], Lib.hid (Turn.refl _ _)⟩
        case rest =>
          obtain ⟨rfl, HT⟩ := hcut
          generalize wc = w4 at HT ⊢
          have HP2 := Lib.hid (HP.out.no HT.out)
          clear HP HT C33 x0 x1 x9 x10 x11 x12
          cases hact : actB e with
          | false =>
            have HA := Lib.hid hact
            clear hact
            go_wp2_with fail
            exact ⟨⟨i + 1, by omega, by go_num, Lib.hid ⟨R, m, Bm, cm, HP2.out, by rw [lnM_skip HE.out HA.out]; exact HSM.out⟩⟩, by simp [RowKit.intOf]; omega⟩
          | true =>
            as_aux_lemma =>
              have HA := Lib.hid hact
              clear hact
              obtain ⟨x0, x1, x9, x10, x11, x12⟩ := HEC.out w4 HP2.out.tu
              clear x9 x10 x11 x12 x0
              have hin := HR.out.2.no HP2.out.tu
              have C34 := Lib.hid (refstate_any e.id l ps (some ⟨b, o, none⟩) cap2 w4 hin.row hin.rws (by omega))
              have hsw := stW_len hin.rws e.id
              have HSW := Lib.hid hsw
              obtain ⟨sa, hsa⟩ : ∃ a, stA l e.id = a := ⟨_, rfl⟩
              rw [hsa] at C34
              clear hin hsw hsa
              go_upto_region 10 with (go_at_call 35; refine C34.out.mono ?_; rintro e2 w5 ⟨⟨ok, k, v, ov, had, aft, A1, len1, c1⟩, rfl, ht, hp, hrow⟩; have H5 := Lib.hid (And.intro (HP2.out.no ht) (And.intro hp.symm hrow)); clear ht hp hrow; simp only [Opx.valH, Ans.valH])
              clear C34 x1
              have hst := H5.out.2.1
              unfold Opx.pure at hst
              simp only at hst
              have hlen1 : (stW l ps e.id).length = len1 := by rw [HSW.out, hst]
              subst hlen1
              have HST := Lib.hid hst
              clear hst
              have t6 : Turn No w5 ((w5.alloc (.cells #[.int .u8 ok, .string k, .string v, .string ov, .bool had, .bool aft, .slice A1 (stW l ps e.id).length c1] 34)).alloc (.cells #[.int .i64 sa.code, .bool sa.found, .string sa.k, .string sa.v] 38)) := ((Turn.refl _ _).alloc _).alloc _
              have H6 : Hid (Dm w ((w5.alloc (.cells #[.int .u8 ok, .string k, .string v, .string ov, .bool had, .bool aft, .slice A1 (stW l ps e.id).length c1] 34)).alloc (.cells #[.int .i64 sa.code, .bool sa.found, .string sa.k, .string sa.v] 38)) g8 R m Bm cm ∧ Row ((w5.alloc (.cells #[.int .u8 ok, .string k, .string v, .string ov, .bool had, .bool aft, .slice A1 (stW l ps e.id).length c1] 34)).alloc (.cells #[.int .i64 sa.code, .bool sa.found, .string sa.k, .string sa.v] 38)) A1 (wcs (stW l ps e.id)) ∧ At ((w5.alloc (.cells #[.int .u8 ok, .string k, .string v, .string ov, .bool had, .bool aft, .slice A1 (stW l ps e.id).length c1] 34)).alloc (.cells #[.int .i64 sa.code, .bool sa.found, .string sa.k, .string sa.v] 38)) w5.heap.size (.cells #[.int .u8 ok, .string k, .string v, .string ov, .bool had, .bool aft, .slice A1 (stW l ps e.id).length c1] 34 (0, 0))) := Lib.hid ⟨H5.out.1.no t6, H5.out.2.2.no t6, (At.new _ _).no ((Turn.refl _ _).alloc _)⟩
              clear t6 H5
              generalize ((w5.alloc (.cells #[.int .u8 ok, .string k, .string v, .string ov, .bool had, .bool aft, .slice A1 (stW l ps e.id).length c1] 34)).alloc (.cells #[.int .i64 sa.code, .bool sa.found, .string sa.k, .string sa.v] 38)) = w6 at H6 ⊢
              generalize w5.heap.size = g10 at H6 ⊢
              obtain ⟨R2, hR2⟩ : ∃ x, doR R ok k v ov had aft (stW l ps e.id) = x := ⟨_, rfl⟩
              obtain ⟨aa, haa⟩ : ∃ x, doA (lnM l ps M0 i) ok k v ov had aft (stW l ps e.id) = x := ⟨_, rfl⟩
              have HAA : Hid (opA (lnM l ps M0 i) (stO l e.id) (stW l ps e.id) = aa ∧ Sim R2 (lnM l ps M0 (i + 1))) := Lib.hid ⟨by rw [HST.out, ← haa]; rfl, by rw [lnM_act HE.out HA.out, HST.out, ← hR2]; exact HSM.out.doR (asc_lnM HM0.out.1 i) ok k v ov had aft (stW l ps e.id)⟩
              have CR : Hid (Calls Try.prog 36 #[.agg #[.slice Bm m cm], .agg #[.int .u8 ok, .string k, .string v, .string ov, .bool had, .bool aft, .slice A1 (stW l ps e.id).length c1]] w6 (RDo w.heap.size w6 (.slice Bm m cm) R2 aa)) := Lib.hid (by
                have hm := H6.out.1.hm
                have hfw := HR.out.2.few.st HR.out.2.rws.len e.id
                rw [HST.out] at hfw
                have hff := few_fit hfw
                have hlm := FitL.ln HFT.out HR.out.2.few HR.out.2.rws.len i
                have := rdo_any R (lnM l ps M0 i) Bm cm ok k v ov had aft A1 c1 (stW l ps e.id) w6 (Z := w.heap.size) H6.out.1.tu.size (by rw [hm]; exact H6.out.1.row) (by have h1 := HML.out; have h2 := HSM.out.len; have h3 := hfw.n; omega) (fun p hp => hlm p (HSM.out.mem hp)) HSM.out (asc_lnM HM0.out.1 i) H6.out.2.1 hff.1 hff.2
                rw [hm, hR2, haa] at this
                exact this)
              clear hR2 haa
              have z0 := H6.out.1.box.cell 0
              have y0 := H6.out.2.2.cell 0
              have y1 := H6.out.2.2.cell 1
              have y2 := H6.out.2.2.cell 2
              have y3 := H6.out.2.2.cell 3
              have y4 := H6.out.2.2.cell 4
              have y5 := H6.out.2.2.cell 5
              have y6 := H6.out.2.2.cell 6
              simp at z0 y0 y1 y2 y3 y4 y5 y6
              go_wp2_with (go_at_call 36; refine CR.out.mono ?_; rintro e2 w8 ⟨B2, c2, rfl, ho, hold, ht⟩; have H8 := Lib.hid (And.intro (H6.out.1.no ht) ho); clear ho hold ht; have z0 := H8.out.1.box.cell 0; have zf := H8.out.1.box.thawed 0; simp at z0)
              exact ⟨⟨i + 1, by omega, by go_num, Lib.hid ⟨R2, _, B2, c2, H8.out.1.put H8.out.2 rfl, HAA.out.2⟩⟩, by simp [RowKit.intOf]; omega⟩
      · obtain rfl : i = l.length := by omega
        have hm := HP.out.hm
        have CA : Hid (Calls Try.prog 40 #[.agg #[.slice Bm m cm]] wr fun e w' => ∃ B c, e = .returned (.slice B (lnM l ps M0 l.length).length c) ∧ Row w' B (pcs (lnM l ps M0 l.length)) ∧ Turn No wr w') := Lib.hid (by
          have hlm := FitL.ln HFT.out HR.out.2.few HR.out.2.rws.len l.length
          have h0 := lnM_len HR.out.2.few HR.out.2.rws.len M0 l.length (Nat.le_refl _)
          have h2 := HM0.out.2
          have h3 := HSM.out.len
          have hr := HP.out.row
          rw [← hm] at hr ⊢
          refine (rall_any R Bm cm wr (row_of_own hr) (by omega) (fun p hp => hlm p (HSM.out.mem hp)) HSM.out (asc_lnM HM0.out.1 _)).mono ?_
          rintro e w' ⟨B, c, rfl, h4, h5⟩
          exact ⟨B, c, rfl, row_of_own h4, h5⟩)
        have z0 := HP.out.box.cell 0
        simp at z0
        clear hm
        go_wp2_with (go_at_call 40; refine CA.out.mono ?_; rintro e w9 ⟨B9, c9, rfl, ho, ht⟩; have H9 := Lib.hid (And.intro ho ht); clear ho ht)
        go_ret
        exact ⟨_, B9, c9, rfl, H9.out.1, HP.out.tu.trans H9.out.2, .inl ⟨HRT.out, rfl⟩⟩
  · have hz1 : (code == 0) = false := by simpa using hz
    have hz2 : (code != 0) = true := by simpa using hz
    have HNR : Hid (¬ Right l) := Lib.hid fun hr => hz ((H1.out.1.of_right hr).2)
    clear hz
    go_wp2_with fail
    go_ret
    exact ⟨[], _, _, rfl, Row.nil _ _, H1.out.2, .inr ⟨HNR.out, rfl⟩⟩
end Go.Proofs.Ytllppkfeiifklaa
