/-
  OmapBatch: a batch is its writes, one behind the other, or nothing.
-/
import Derived.Test.YtjjmooegpoeomaaWTwo
namespace Go.Proofs.Ytjjmooegpoeomaa
open Go.RowKit Go.Lib
set_option linter.unusedVariables false
set_option linter.unusedSimpArgs false

set_option maxRecDepth 100000 in
set_option maxHeartbeats 8000000 in
theorem batch_any (A : Option Addr) (cap : Nat) (l : List Pr) (A2 : Option Addr) (cap2 : Nat) (ws : List Wr) (w : World) (hl : InP w A l.length cap l) (hw : InW w A2 ws.length cap2 ws) :
    Calls Try.prog 6 #[.slice A l.length cap, .slice A2 ws.length cap2] w fun e w' => e = .returned (.bool true) ∧ Turn No w w' := by
  have HR := Lib.hid (And.intro hl hw)
  have CW := Lib.hid wakes_any
  have hwm := hw.hmax
  unfold maxLen at hwm
  have HX0 : Hid (InO w ⟨6, ⟨#[]⟩, ⟨#[]⟩, ⟨#[]⟩, false, false, A2, ws.length, cap2⟩ ws) := Lib.hid ⟨hw, fit500 (a := ⟨#[]⟩) (by decide), fit500 (a := ⟨#[]⟩) (by decide), fit500 (a := ⟨#[]⟩) (by decide)⟩
  have CG := Lib.hid fun (W : World) (b : Nat) (t : Turn No w W) (ha : At W b (.cells #[.int .u8 6, .string ⟨#[]⟩, .string ⟨#[]⟩, .string ⟨#[]⟩, .bool false, .bool false, .slice A2 ws.length cap2] 39 (0, 0))) =>
    great_any A cap l (some ⟨b, 0, none⟩) 1 [⟨6, ⟨#[]⟩, ⟨#[]⟩, ⟨#[]⟩, false, false, A2, ws.length, cap2⟩] [ws] W ⟨rfl, HR.out.1.hmax, HR.out.1.row.turn t fun _ _ _ h => h, HR.out.1.fit, HR.out.1.nil⟩ ⟨rfl, by unfold maxLen; simp, (by
      intro j u hj
      exact ⟨b, 0, rfl, ha.lt, by rw [ha.cell]; simpa [ocs, Opx.cs] using hj⟩), rfl, (by
      intro j x ws2 h1 h2
      match j, h1, h2 with
      | 0, h1, h2 =>
        simp at h1 h2
        subst h1 h2
        exact HX0.out.no t)⟩
  clear hl hw
  go_enter Try.func6, Try.ntmps6
  go_upto_region 2 with fail
  have HE0 : Hid (Turn No w (w.alloc (.cells #[.int .u8 6, .string ⟨#[]⟩, .string ⟨#[]⟩, .string ⟨#[]⟩, .bool false, .bool false, .slice A2 ws.length cap2] 39)) ∧ At (w.alloc (.cells #[.int .u8 6, .string ⟨#[]⟩, .string ⟨#[]⟩, .string ⟨#[]⟩, .bool false, .bool false, .slice A2 ws.length cap2] 39)) w.heap.size (.cells #[.int .u8 6, .string ⟨#[]⟩, .string ⟨#[]⟩, .string ⟨#[]⟩, .bool false, .bool false, .slice A2 ws.length cap2] 39 (0, 0))) := Lib.hid ⟨(Turn.refl _ _).alloc _, At.new _ _⟩
  generalize w.alloc (.cells #[.int .u8 6, .string ⟨#[]⟩, .string ⟨#[]⟩, .string ⟨#[]⟩, .bool false, .bool false, .slice A2 ws.length cap2] 39) = w1 at HE0 ⊢
  generalize w.heap.size = g5 at HE0 ⊢
  have y0 := HE0.out.2.cell 0
  have y1 := HE0.out.2.cell 1
  have y2 := HE0.out.2.cell 2
  have y3 := HE0.out.2.cell 3
  have y4 := HE0.out.2.cell 4
  have y5 := HE0.out.2.cell 5
  have y6 := HE0.out.2.cell 6
  simp at y0 y1 y2 y3 y4 y5 y6
  go_upto_if 19 with (go_at_call 9; refine (CG.out _ _ (HE0.out.1.alloc _) (At.new _ _)).mono ?_; rintro e w2 ⟨⟨bv, rfl, hP⟩, ht⟩; have H2 := Lib.hid (And.intro (HE0.out.1.trans (((Turn.refl _ _).alloc _).trans ht)) (HE0.out.2.no (((Turn.refl _ _).alloc _).trans ht))); have HP := Lib.hid hP; clear ht hP)
  clear y0 y1 y2 y3 y4 y5 y6 HE0 CG
  cases bv with
  | true =>
    go_wp2_with (go_at_call 10; refine (CW.out _).mono ?_; rintro e w3 ⟨rfl, ht⟩)
    go_ret
    exact ⟨rfl, H2.out.1.trans ht⟩
  | false =>
    have hF := HP.out rfl
    have hfw : Few ⟨#[]⟩ ⟨#[]⟩ ⟨#[]⟩ ws := hF.w 0 _ _ rfl rfl
    have HF := Lib.hid (And.intro hF.nl hfw)
    have C1 := Lib.hid (so_new H2.out.1 A cap l HR.out.1 hF.nl)
    clear hF hfw HP
    go_upto_region 5 with (go_at_call 11; refine C1.out.mono ?_; rintro e w3 ⟨m1, rr1, rfl, hso, ht⟩; have H3 := Lib.hid (And.intro hso (H2.out.2.no ht)); clear hso ht)
    have C2 := Lib.hid (sc_new H3.out.1 A cap l HR.out.1 HF.out.1)
    clear C1 H2
    go_upto_region 6 with (go_at_call 11; refine C2.out.mono ?_; rintro e w4 ⟨m2, rr2, rfl, hsc, ht⟩; have H4 := Lib.hid (And.intro hsc (H3.out.2.no ht)); clear hsc ht)
    clear C2 H3
    obtain ⟨ac, hac⟩ : ∃ ac, refO 6 ⟨#[]⟩ ⟨#[]⟩ ⟨#[]⟩ false ws = ac := ⟨_, rfl⟩
    obtain ⟨L1, hL1⟩ : ∃ L1, doM (news l) 6 ⟨#[]⟩ ⟨#[]⟩ ⟨#[]⟩ false false ws = L1 := ⟨_, rfl⟩
    have C3 := Lib.hid (om_do H4.out.1.a H4.out.1.tu 6 ⟨#[]⟩ ⟨#[]⟩ ⟨#[]⟩ false false A2 cap2 ws HR.out.2.row HF.out.2 (by have := news_few HF.out.1; omega) (a := ⟨ac, false, ⟨#[]⟩, ⟨#[]⟩⟩) (by rw [← hac]; exact doA_batch) hL1)
    have HQ := Lib.hid (And.intro hac hL1)
    clear hac hL1
    have y0 := H4.out.2.cell 0
    have y1 := H4.out.2.cell 1
    have y2 := H4.out.2.cell 2
    have y3 := H4.out.2.cell 3
    have y4 := H4.out.2.cell 4
    have y5 := H4.out.2.cell 5
    have y6 := H4.out.2.cell 6
    simp at y0 y1 y2 y3 y4 y5 y6
    go_upto_region 7 with (go_at_call 16; refine C3.out.mono ?_; rintro e w5 ⟨rfl, r1, hom, hr, ht⟩; have H5 := Lib.hid (And.intro (H4.out.1.step hom hr ht) (H4.out.1.a.keep H4.out.2 (by decide) (by decide) ht)); clear hom hr ht)
    clear C3 H4 y0 y1 y2 y3 y4 y5 y6
    have H6 : Hid (Sc w (w5.alloc (.cells #[.int .i64 ac, .bool false, .string ⟨#[]⟩, .string ⟨#[]⟩] 35)) m1 r1 L1 m2 (some rr2) (news l) ∧ At (w5.alloc (.cells #[.int .i64 ac, .bool false, .string ⟨#[]⟩, .string ⟨#[]⟩] 35)) g5 (.cells #[.int .u8 6, .string ⟨#[]⟩, .string ⟨#[]⟩, .string ⟨#[]⟩, .bool false, .bool false, .slice A2 ws.length cap2] 39 (0, 0)) ∧ At (w5.alloc (.cells #[.int .i64 ac, .bool false, .string ⟨#[]⟩, .string ⟨#[]⟩] 35)) w5.heap.size (.cells #[.int .i64 ac, .bool false, .string ⟨#[]⟩, .string ⟨#[]⟩] 35 (0, 0))) := Lib.hid ⟨H5.out.1.no ((Turn.refl _ _).alloc _), H5.out.2.no ((Turn.refl _ _).alloc _), At.new _ _⟩
    generalize w5.alloc (.cells #[.int .i64 ac, .bool false, .string ⟨#[]⟩, .string ⟨#[]⟩] 35) = w6 at H6 ⊢
    generalize w5.heap.size = g8 at H6 ⊢
    clear H5
    have y0 := H6.out.2.2.cell 0
    simp at y0
    go_upto_if 30 with fail
    clear y0
    go_cut [] from 9 to 56 (fun wx => ∃ r2, Hid (Sc w wx m1 r1 L1 m2 r2 L1 ∧ At wx g5 (.cells #[.int .u8 6, .string ⟨#[]⟩, .string ⟨#[]⟩, .string ⟨#[]⟩, .bool false, .bool false, .slice A2 ws.length cap2] 39 (0, 0)) ∧ At wx g8 (.cells #[.int .i64 ac, .bool false, .string ⟨#[]⟩, .string ⟨#[]⟩] 35 (0, 0))))
    case first =>
      by_cases he : ac = 0
      · subst he
        have HZ : Hid (L1 = wrL (news l) ws ∧ ∀ x ∈ ws, refO (if x.gone then 3 else 2) x.k x.v ⟨#[]⟩ false [] = 0) := Lib.hid ⟨by rw [← HQ.out.2, doM_batch, if_pos HQ.out.1], fun x hx => ref_each HQ.out.1 hx⟩
        have H7 : Hid (∃ r2, Sc w w6 m1 r1 L1 m2 r2 (wrL (news l) (ws.take 0)) ∧ At w6 g5 (.cells #[.int .u8 6, .string ⟨#[]⟩, .string ⟨#[]⟩, .string ⟨#[]⟩, .bool false, .bool false, .slice A2 ws.length cap2] 39 (0, 0)) ∧ At w6 g8 (.cells #[.int .i64 0, .bool false, .string ⟨#[]⟩, .string ⟨#[]⟩] 35 (0, 0))) := Lib.hid ⟨_, H6.out⟩
        clear H6
        (try simp only [beq_self_eq_true])
        (try simp only [decide_true])
        go_wp2_with fail
        go_loopw [9] (fun i wr => ∃ kk : Nat, kk ≤ ws.length ∧ i = .int .i64 (kk : Int) ∧ Hid (∃ r2, Sc w wr m1 r1 L1 m2 r2 (wrL (news l) (ws.take kk)) ∧ At wr g5 (.cells #[.int .u8 6, .string ⟨#[]⟩, .string ⟨#[]⟩, .string ⟨#[]⟩, .bool false, .bool false, .slice A2 ws.length cap2] 39 (0, 0)) ∧ At wr g8 (.cells #[.int .i64 0, .bool false, .string ⟨#[]⟩, .string ⟨#[]⟩] 35 (0, 0)))) (fun i _ => ws.length - (RowKit.intOf i).toNat)
        case atStart => exact ⟨0, Nat.zero_le _, rfl, H7⟩
        case round =>
          obtain ⟨kk, hk, rfl, HP⟩ := hrel
          clear H7
          obtain ⟨r2, hsc, h5, h8⟩ := HP.out
          by_cases hlt : kk < ws.length
          · obtain ⟨x, hx⟩ : ∃ x, ws[kk]? = some x := ⟨ws[kk], List.getElem?_eq_getElem hlt⟩
            have hxm := List.mem_of_getElem? hx
            obtain ⟨b, off, hA, hb, z0, z1, z2⟩ := HR.out.2.row.wr hx
            have hrow2 := HR.out.2.row
            have hs2 := wrL_snoc hx (news l)
            have hfx := HF.out.2.w x hxm
            have hz := HZ.out.2 x hxm
            have hlen : (wrL (news l) (ws.take kk)).length ≤ 30000 := by
              have h1 := wrL_length (news l) (ws.take kk)
              have h2 := news_few HF.out.1
              have h3 := HF.out.2.n
              rw [List.length_take] at h1
              omega
            obtain ⟨xk, xv, xg⟩ := x
            simp only at z0 z1 z2 hfx hz
            subst hA
            have tt0 : Turn No wr wr.drew := (Turn.refl No wr).drew
            have CD := Lib.hid (om_do (hsc.swap.no tt0).a (hsc.no tt0).tu (if xg then 3 else 2) xk xv ⟨#[]⟩ false false none 0 [] (Row.nil _ _) ⟨hfx.1, hfx.2, by decide, by decide, by simp⟩ hlen rfl (doM_each (x := ⟨xk, xv, xg⟩) hz))
            rw [← hs2] at CD
            have HS := Lib.hid (And.intro hsc (And.intro h5 h8))
            have hSn : Hid (∀ W, Turn No w W → W.cell? ⟨b, off + kk * 3, none⟩ = some (.string xk) ∧ W.cell? ⟨b, off + kk * 3 + 1, none⟩ = some (.string xv)) := Lib.hid fun W t => ⟨(World.cell?_of_block (w := w) (t.block b hb (fun h => h))).trans z0, (World.cell?_of_block (w := w) (t.block b hb (fun h => h))).trans z1⟩
            have x2 := (World.cell?_of_block (w := w) (hsc.tu.block b hb (fun h => h))).trans z2
            have x0 := (hSn.out wr hsc.tu).1
            have x1 := (hSn.out wr hsc.tu).2
            have hS0 := hSn.out wr.drew hsc.tu.drew
            have hq1 : (0 : Int) ≤ (kk : Int) := by omega
            have hq2 : (kk : Int) < (ws.length : Int) := by omega
            clear hx hxm hb hrow2 hs2 hfx hz hlen hsc h5 h8 HP z0 z1 z2
            cases xg with
            | true =>
              simp only [if_true, List.length_nil] at CD
              go_wp2_with fail
              go_region_held3 (fun W => W.cell? ⟨b, off + kk * 3, none⟩ = some (.string xk) ∧ W.cell? ⟨b, off + kk * 3 + 1, none⟩ = some (.string xv)) (first | (with_reducible exact hS0) | (with_reducible exact hSn.out _ T9.out)) (first | (go_at_call 16; (with_reducible refine CD.out.mono ?_); rintro e w9 ⟨rfl, r2', hom, hr, ht⟩; have H9 : Hid (Sc w w9 m1 r1 L1 m2 r2' (wrL (news l) (ws.take (kk + 1))) ∧ At w9 g5 (.cells #[.int .u8 6, .string ⟨#[]⟩, .string ⟨#[]⟩, .string ⟨#[]⟩, .bool false, .bool false, .slice (some ⟨b, off, none⟩) ws.length cap2] 39 (0, 0)) ∧ At w9 g8 (.cells #[.int .i64 0, .bool false, .string ⟨#[]⟩, .string ⟨#[]⟩] 35 (0, 0))) := Lib.hid ⟨((HS.out.1.no tt0).swap.step hom hr ht).swap, (HS.out.1.no tt0).b.keep (HS.out.2.1.no tt0) (by decide) (by decide) ht, (HS.out.1.no tt0).b.keep (HS.out.2.2.no tt0) (by decide) (by decide) ht⟩; have T9 := Lib.hid H9.out.1.tu; clear hom hr ht))
              go_wp2_with fail
              exact ⟨⟨kk + 1, by omega, by go_num, Lib.hid ⟨_, H9.out⟩⟩, by simp [RowKit.intOf]; omega⟩
            | false =>
              simp only [Bool.false_eq_true, if_false, List.length_nil] at CD
              go_wp2_with fail
              go_region_held3 (fun W => W.cell? ⟨b, off + kk * 3, none⟩ = some (.string xk) ∧ W.cell? ⟨b, off + kk * 3 + 1, none⟩ = some (.string xv)) (first | (with_reducible exact hS0) | (with_reducible exact hSn.out _ T9.out)) (first | (go_at_call 16; (with_reducible refine CD.out.mono ?_); rintro e w9 ⟨rfl, r2', hom, hr, ht⟩; have H9 : Hid (Sc w w9 m1 r1 L1 m2 r2' (wrL (news l) (ws.take (kk + 1))) ∧ At w9 g5 (.cells #[.int .u8 6, .string ⟨#[]⟩, .string ⟨#[]⟩, .string ⟨#[]⟩, .bool false, .bool false, .slice (some ⟨b, off, none⟩) ws.length cap2] 39 (0, 0)) ∧ At w9 g8 (.cells #[.int .i64 0, .bool false, .string ⟨#[]⟩, .string ⟨#[]⟩] 35 (0, 0))) := Lib.hid ⟨((HS.out.1.no tt0).swap.step hom hr ht).swap, (HS.out.1.no tt0).b.keep (HS.out.2.1.no tt0) (by decide) (by decide) ht, (HS.out.1.no tt0).b.keep (HS.out.2.2.no tt0) (by decide) (by decide) ht⟩; have T9 := Lib.hid H9.out.1.tu; clear hom hr ht))
              go_wp2_with fail
              exact ⟨⟨kk + 1, by omega, by go_num, Lib.hid ⟨_, H9.out⟩⟩, by simp [RowKit.intOf]; omega⟩
          · obtain rfl : kk = ws.length := by omega
            have hF := hsc
            rw [List.take_length, ← HZ.out.1] at hF
            have H9 := Lib.hid (And.intro hF (And.intro h5 h8))
            clear hF hsc h5 h8 HP
            go_wp2_with fail
            go_meet
            exact ⟨_, H9⟩
      · have hL : L1 = news l := by rw [← HQ.out.2, doM_batch, if_neg (by rw [HQ.out.1]; exact he)]
        subst hL
        have H7 := Lib.hid H6.out
        clear H6
        go_wp2_with fail
        go_meet
        exact ⟨_, H7⟩
    case rest =>
      obtain ⟨r2, HE⟩ := hcut
      have hn1 : L1.length ≤ 100 + ws.length ∧ ws.length ≤ 40 := ⟨by
        have h1 := wrL_length (news l) ws
        have h2 := news_few HF.out.1
        have e := HQ.out.2
        rw [doM_batch] at e
        split at e <;> (rw [← e]; omega), HF.out.2.n⟩
      have hn2 : L1.length ≤ 200 := by omega
      clear hn1
      have CA := Lib.hid (all_any HE.out.1.a)
      go_upto_region 16 with (go_at_call 14; refine CA.out.mono ?_; rintro e wp ⟨pb, rfl, ho, ht⟩; have HP := Lib.hid (And.intro ho ht); clear ho ht)
      have CA2 := Lib.hid (all_any (HE.out.1.no HP.out.2).a)
      clear CA
      go_upto_region 17 with (go_at_call 14; refine CA2.out.mono ?_; rintro e wq ⟨qb, rfl, ho, ht⟩; have HQ2 := Lib.hid (And.intro ho ht); clear ho ht)
      clear CA2
      have hpb : wc.heap.size ≤ pb ∧ pb < wp.heap.size := by have := HP.out.1.lt pb rfl; omega
      have hqb : wp.heap.size ≤ qb := by have := HQ2.out.1.lt qb rfl; omega
      have HW : Hid (Sc w wq m1 r1 L1 m2 r2 L1 ∧ At wq g5 (.cells #[.int .u8 6, .string ⟨#[]⟩, .string ⟨#[]⟩, .string ⟨#[]⟩, .bool false, .bool false, .slice A2 ws.length cap2] 39 (0, 0)) ∧ At wq g8 (.cells #[.int .i64 ac, .bool false, .string ⟨#[]⟩, .string ⟨#[]⟩] 35 (0, 0)) ∧ Row wq (some ⟨qb, 0, none⟩) (pcs L1)) := Lib.hid ⟨(HE.out.1.no HP.out.2).no HQ2.out.2, (HE.out.2.1.no HP.out.2).no HQ2.out.2, (HE.out.2.2.no HP.out.2).no HQ2.out.2, row_of_own HQ2.out.1⟩
      have HB : Hid (w.heap.size ≤ pb ∧ pb ≠ m1 ∧ pb ≠ m2 ∧ r1 ≠ some pb ∧ r2 ≠ some pb ∧ g5 ≠ pb ∧ g8 ≠ pb ∧ qb ≠ pb) := Lib.hid ⟨Nat.le_trans HE.out.1.tu.size hpb.1, by have := HE.out.1.a.lt; omega, by have := HE.out.1.b.lt; omega, fun e => by have := (HE.out.1.a.rb_lt e).2; omega, fun e => by have := (HE.out.1.b.rb_lt e).2; omega, by have := HE.out.2.1.lt; omega, by have := HE.out.2.2.lt; omega, by omega⟩
      obtain ⟨hpl, hpo⟩ := HP.out.1
      have hC : ∃ cs : Array Value, L1.length ≤ cs.size / 2 ∧ (At wq pb (.cells cs 50 (0, 0)) ∨ L1.length = 0) := by
        rcases hpo with ⟨hv, hn⟩ | ⟨g, cp, cur, hv, hb, hg, hnc, hc, hs, ht⟩
        · exact ⟨#[], by omega, .inr hn⟩
        · injection hv with hv _ hcp
          injection hv with hv
          injection hv with hv
          subst hv hcp
          exact ⟨cur, by omega, .inl (At.no hg HQ2.out.2)⟩
      obtain ⟨cs0, hcs0, hat0⟩ := hC
      have H7 : Hid (∃ cs : Array Value, L1.length ≤ cs.size / 2 ∧ (At wq pb (.cells cs 50 (0, 0)) ∨ L1.length = 0) ∧ Turn (fun k => k = pb) wq wq) := Lib.hid ⟨cs0, hcs0, hat0, Turn.refl _ _⟩
      clear hpl hpo hcs0 hat0 hpb hqb HP HQ2 HE
      go_wp2_with fail
      go_loopw [13] (fun i wr => ∃ kk : Nat, kk ≤ L1.length ∧ i = .int .i64 (kk : Int) ∧ Hid (∃ cs : Array Value, L1.length ≤ cs.size / 2 ∧ (At wr pb (.cells cs 50 (0, 0)) ∨ L1.length = 0) ∧ Turn (fun k => k = pb) wq wr)) (fun i _ => L1.length - (RowKit.intOf i).toNat)
      case atStart => exact ⟨0, Nat.zero_le _, rfl, H7⟩
      case round =>
        obtain ⟨kk, hk, rfl, HP⟩ := hrel
        clear H7
        obtain ⟨cs, hcs, hat, htt⟩ := HP.out
        by_cases hlt : kk < L1.length
        · have hat := hat.resolve_right (by omega)
          obtain ⟨u, hu⟩ : ∃ u, cs[kk * 2]? = some u := ⟨cs[kk * 2]'(by omega), Array.getElem?_eq_getElem (by omega)⟩
          have x0 := (hat.cell (kk * 2)).trans hu
          have f0 := hat.thawed (kk * 2)
          have HN := Lib.hid fun (v : Value) => (⟨_, by simpa using hcs, .inl (hat.set (kk * 2) v), htt.trans (Turn.set1 wr pb (kk * 2) v)⟩ : ∃ cs : Array Value, L1.length ≤ cs.size / 2 ∧ (At (wr.setCell ⟨pb, kk * 2, none⟩ v) pb (.cells cs 50 (0, 0)) ∨ L1.length = 0) ∧ Turn (fun k => k = pb) wq (wr.setCell ⟨pb, kk * 2, none⟩ v))
          clear hcs hat htt hu HP
          go_wp2_with fail
          exact ⟨⟨kk + 1, by omega, by go_num, Lib.hid (HN.out _)⟩, by simp [RowKit.intOf]; omega⟩
        · obtain rfl : kk = L1.length := by omega
          have HE : Hid (Sc w wr m1 r1 L1 m2 r2 L1 ∧ At wr g5 (.cells #[.int .u8 6, .string ⟨#[]⟩, .string ⟨#[]⟩, .string ⟨#[]⟩, .bool false, .bool false, .slice A2 ws.length cap2] 39 (0, 0)) ∧ At wr g8 (.cells #[.int .i64 ac, .bool false, .string ⟨#[]⟩, .string ⟨#[]⟩] 35 (0, 0)) ∧ Row wr (some ⟨qb, 0, none⟩) (pcs L1)) := Lib.hid ⟨HW.out.1.far htt (fun k e => by subst e; exact ⟨HB.out.1, HB.out.2.1, HB.out.2.2.1, HB.out.2.2.2.1, HB.out.2.2.2.2.1⟩), HW.out.2.1.turn htt HB.out.2.2.2.2.2.1, HW.out.2.2.1.turn htt HB.out.2.2.2.2.2.2.1, HW.out.2.2.2.turn htt (fun b o e h => by injection e with e; injection e with e; subst e; exact HB.out.2.2.2.2.2.2.2 h)⟩
          clear hcs hat htt HP HW HB
          have tt0 : Turn No wr wr.drew := (Turn.refl No wr).drew
          have hSa : Hid (∀ W, Turn No wr W → W.cell? ⟨g5, 0, none⟩ = some (.int .u8 6) ∧ W.cell? ⟨g5, 1, none⟩ = some (.string ⟨#[]⟩) ∧ W.cell? ⟨g5, 2, none⟩ = some (.string ⟨#[]⟩) ∧ W.cell? ⟨g5, 3, none⟩ = some (.string ⟨#[]⟩) ∧ W.cell? ⟨g5, 4, none⟩ = some (.bool false) ∧ W.cell? ⟨g5, 5, none⟩ = some (.bool false) ∧ W.cell? ⟨g5, 6, none⟩ = some (.slice A2 ws.length cap2) ∧ W.cell? ⟨g8, 0, none⟩ = some (.int .i64 ac) ∧ W.cell? ⟨g8, 1, none⟩ = some (.bool false) ∧ W.cell? ⟨g8, 2, none⟩ = some (.string ⟨#[]⟩) ∧ W.cell? ⟨g8, 3, none⟩ = some (.string ⟨#[]⟩)) := Lib.hid fun W t => ⟨by simpa using (HE.out.2.1.no t).cell 0, by simpa using (HE.out.2.1.no t).cell 1, by simpa using (HE.out.2.1.no t).cell 2, by simpa using (HE.out.2.1.no t).cell 3, by simpa using (HE.out.2.1.no t).cell 4, by simpa using (HE.out.2.1.no t).cell 5, by simpa using (HE.out.2.1.no t).cell 6, by simpa using (HE.out.2.2.1.no t).cell 0, by simpa using (HE.out.2.2.1.no t).cell 1, by simpa using (HE.out.2.2.1.no t).cell 2, by simpa using (HE.out.2.2.1.no t).cell 3⟩
          have CR := Lib.hid (refused_any 6 ⟨#[]⟩ ⟨#[]⟩ ⟨#[]⟩ false false A2 cap2 ws wr.drew (HR.out.2.row.turn (HE.out.1.tu.trans tt0) fun _ _ _ h => h) (fit500 (a := ⟨#[]⟩) (by decide)) (fit500 (a := ⟨#[]⟩) (by decide)) (fit500 (a := ⟨#[]⟩) (by decide)) HR.out.2.fit (by have := HF.out.2.n; omega))
          rw [HQ.out.1] at CR
          have CA := Lib.hid fun (W : World) (t : Turn No wr W) => all_any (HE.out.1.no t).b
          have CB := Lib.hid fun (W : World) (t : Turn No wr W) => all_any (HE.out.1.no t).a
          have CS := Lib.hid fun (W : World) (t : Turn No wr W) (B : Nat) (ho : Row W (some ⟨B, 0, none⟩) (pcs L1)) => same_any (some ⟨qb, 0, none⟩) L1.length L1 (some ⟨B, 0, none⟩) L1.length L1 W (HE.out.2.2.2.turn t fun _ _ _ h => h) ho (by omega)
          rw [show decide (L1 = L1) = true from decide_eq_true rfl] at CS
          have q1 := fun W => eql_ans ac ac false false ⟨#[]⟩ ⟨#[]⟩ ⟨#[]⟩ ⟨#[]⟩ W
          rw [ansEq_same] at q1
          go_wp2_with fail
          go_region_held3 (fun W => W.cell? ⟨g5, 0, none⟩ = some (.int .u8 6) ∧ W.cell? ⟨g5, 1, none⟩ = some (.string ⟨#[]⟩) ∧ W.cell? ⟨g5, 2, none⟩ = some (.string ⟨#[]⟩) ∧ W.cell? ⟨g5, 3, none⟩ = some (.string ⟨#[]⟩) ∧ W.cell? ⟨g5, 4, none⟩ = some (.bool false) ∧ W.cell? ⟨g5, 5, none⟩ = some (.bool false) ∧ W.cell? ⟨g5, 6, none⟩ = some (.slice A2 ws.length cap2) ∧ W.cell? ⟨g8, 0, none⟩ = some (.int .i64 ac) ∧ W.cell? ⟨g8, 1, none⟩ = some (.bool false) ∧ W.cell? ⟨g8, 2, none⟩ = some (.string ⟨#[]⟩) ∧ W.cell? ⟨g8, 3, none⟩ = some (.string ⟨#[]⟩)) (first | (with_reducible exact hSa.out _ tt0) | (with_reducible exact hSa.out _ T1.out) | (with_reducible exact hSa.out _ T2.out) | (with_reducible exact hSa.out _ T3.out) | (with_reducible exact hSa.out _ T4.out) | (with_reducible exact hSa.out _ T5.out) | (with_reducible exact hSa.out _ T6.out)) (first | (go_at_call 18; (with_reducible refine CR.out.mono ?_); rintro e w1 ⟨rfl, ht⟩; have T1 : Hid (Turn No wr w1) := Lib.hid (tt0.trans ht); clear ht) | (go_at_call 14; (with_reducible refine (CA.out _ T1.out).mono ?_); rintro e w2 ⟨b2, rfl, ho, ht⟩; have T2 : Hid (Turn No wr w2) := Lib.hid (T1.out.trans ht); have R2 := Lib.hid (row_of_own ho); clear ho ht) | (go_at_call 13; (with_reducible refine (CS.out _ T2.out _ R2.out).mono ?_); rintro e w3 ⟨rfl, ht⟩; have T3 : Hid (Turn No wr w3) := Lib.hid (T2.out.trans ht); clear ht) | (go_at_call 14; (with_reducible refine (CB.out _ T3.out).mono ?_); rintro e w4 ⟨b4, rfl, ho, ht⟩; have T4 : Hid (Turn No wr w4) := Lib.hid (T3.out.trans ht); have R4 := Lib.hid (row_of_own ho); clear ho ht) | (go_at_call 13; (with_reducible refine (CS.out _ T4.out _ R4.out).mono ?_); rintro e w5 ⟨rfl, ht⟩; have T5 : Hid (Turn No wr w5) := Lib.hid (T4.out.trans ht); clear ht) | (go_at_call 10; (with_reducible refine (CW.out _).mono ?_); rintro e w6 ⟨rfl, ht⟩; have T6 : Hid (Turn No wr w6) := Lib.hid (T5.out.trans ht); clear ht))
          go_wp2_with fail
          go_ret
          exact ⟨rfl, HE.out.1.tu.trans T6.out⟩
end Go.Proofs.Ytjjmooegpoeomaa
