/-
  The law BlnodeOnce.
-/
import Derived.Test.YtengbkopihiiaaaLw
namespace Go.Proofs.Ytengbkopihiiaaa
open Go.RowKit Go.Lib
set_option linter.unusedVariables false
set_option maxRecDepth 20000
set_option linter.unusedSimpArgs false

set_option maxRecDepth 100000 in
set_option maxHeartbeats 32000000 in
theorem once_any (n : Nd) (AK AV AD : Option Addr) (ck cv cd : Nat) (a b x y : ByteArray) (w : World) (hin : InN w n AK AV AD) (fa : Fit a) (fb : Fit b) (fx : Fit x) (fy : Fit y) :
    Calls Try.prog 8 #[.agg #[.bool n.leaf, .slice AK n.keys.length ck, .slice AV n.vals.length cv, .slice AD n.kids.length cd, .string n.high, .bool n.bnd, .int .i64 n.nx.slot, .int .u64 n.nx.gen], .string a, .string b, .string x, .string y] w fun e w' => e = .returned (.bool true) ∧ Turn No w w' := by
  have HF := Lib.hid (And.intro fa (And.intro fb (And.intro fx fy)))
  obtain ⟨leaf, K, V, D, high, bnd, ⟨sl, ge⟩⟩ := n
  have CA := Lib.hid fun (W : World) => awake_c W
  have HIn := Lib.hid hin
  have CG := Lib.hid fun (W : World) (t : Turn No w W) => great_any leaf K V.length D.length high bnd sl ge AK AV AD ck cv cd W (HIn.out.k.no t) HIn.out.fk HIn.out.fh HIn.out.lk HIn.out.lv HIn.out.ld
  have HS : Hid (SmallN K V.length D.length high → K.length ≤ 300 ∧ V.length ≤ 300 ∧ D.length ≤ 301 ∧ ∀ W, Turn No w W → In W ⟨leaf, K, V, D, high, bnd, ⟨sl, ge⟩⟩ AK AV AD) := Lib.hid fun hs => ⟨hs.1, hs.2.1, hs.2.2.1, fun W t => ⟨HIn.out.k.no t, HIn.out.v.no t, HIn.out.d.no t, HIn.out.fk, HIn.out.fv, HIn.out.fh, Nat.le_trans hs.1 (by decide), Nat.le_trans hs.2.1 (by decide), Nat.le_trans hs.2.2.1 (by decide)⟩⟩
  have HB := Lib.hid (And.intro ((Turn.refl No w).alloc (.cells #[.bool leaf, .slice AK K.length ck, .slice AV V.length cv, .slice AD D.length cd, .string high, .bool bnd, .int .i64 sl, .int .u64 ge] 29)) (At.new w (.cells #[.bool leaf, .slice AK K.length ck, .slice AV V.length cv, .slice AD D.length cd, .string high, .bool bnd, .int .i64 sl, .int .u64 ge] 29)))
  have hm1 := HIn.out.lk
  have hm2 := HIn.out.ld
  simp only at hm1 hm2 ⊢
  unfold maxLen at hm1 hm2
  have CR := Lib.hid fun (W : World) (h : In W ⟨leaf, K, V, D, high, bnd, ⟨sl, ge⟩⟩ AK AV AD) => right_c ⟨leaf, K, V, D, high, bnd, ⟨sl, ge⟩⟩ AK AV AD ck cv cd W h
  have CC := Lib.hid fun (key : ByteArray) (fk : Fit key) (W : World) (h : In W ⟨leaf, K, V, D, high, bnd, ⟨sl, ge⟩⟩ AK AV AD) => covers_c ⟨leaf, K, V, D, high, bnd, ⟨sl, ge⟩⟩ AK AV AD ck cv cd key W h fk
  have CCa := Lib.hid (CC.out a fa)
  have CCb := Lib.hid (CC.out b fb)
  simp only at CR CCa CCb
  unfold Fit at fa fb fx fy
  clear CC
  clear hin
  go_enter Try.func8, Try.ntmps8
  go_upto_region 1 with fail
  generalize w.alloc (.cells #[.bool leaf, .slice AK K.length ck, .slice AV V.length cv, .slice AD D.length cd, .string high, .bool bnd, .int .i64 sl, .int .u64 ge] 29) = w1 at HB ⊢
  generalize w.heap.size = g at HB ⊢
  have HC : Hid (∀ W, Turn No w1 W → At W g (.cells #[.bool leaf, .slice AK K.length ck, .slice AV V.length cv, .slice AD D.length cd, .string high, .bool bnd, .int .i64 sl, .int .u64 ge] 29 (0, 0))) := Lib.hid fun W t => HB.out.2.no t
  go_wp2_with fail
  (with_reducible refine (CA.out _).mono ?_)
  rintro e w2 ⟨rfl, ht⟩
  have T2 := Lib.hid ht
  clear ht
  go_upto_region 3 with fail
  obtain ⟨c0, c1, c2, c3, c4, c5, c6, c7⟩ := at8 (HC.out w2 T2.out)
  go_wp2_with fail
  (with_reducible refine (CG.out _ (HB.out.1.trans T2.out)).mono ?_)
  rintro e w3 ⟨bb, rfl, hb, ht⟩
  have T3 := Lib.hid (T2.out.trans ht)
  have HBB := Lib.hid hb
  clear ht hb c0 c1 c2 c3 c4 c5 c6 c7 T2 CG CA
  cases bb with
  | true =>
    go_wp2_with fail
    go_ret
    exact ⟨rfl, HB.out.1.trans T3.out⟩
  | false =>
    by_cases hl0 : 2000 < a.size
    · have q0 : (2000 : Int) < (a.size : Int) := by omega
      go_wp2_with fail
      go_ret
      exact ⟨rfl, HB.out.1.trans T3.out⟩
    · have q0 : ¬ (2000 : Int) < (a.size : Int) := by omega
      by_cases hl1 : 2000 < b.size
      · have q1 : (2000 : Int) < (b.size : Int) := by omega
        go_wp2_with fail
        go_ret
        exact ⟨rfl, HB.out.1.trans T3.out⟩
      · have q1 : ¬ (2000 : Int) < (b.size : Int) := by omega
        by_cases hl2 : 2000 < x.size
        · have q2 : (2000 : Int) < (x.size : Int) := by omega
          go_wp2_with fail
          go_ret
          exact ⟨rfl, HB.out.1.trans T3.out⟩
        · have q2 : ¬ (2000 : Int) < (x.size : Int) := by omega
          by_cases hl3 : 2000 < y.size
          · have q3 : (2000 : Int) < (y.size : Int) := by omega
            go_wp2_with fail
            go_ret
            exact ⟨rfl, HB.out.1.trans T3.out⟩
          · have q3 : ¬ (2000 : Int) < (y.size : Int) := by omega
            obtain ⟨k300, v300, d300, hI⟩ := HS.out (HBB.out rfl)
            have HI := Lib.hid hI
            have H300 := Lib.hid (And.intro k300 (And.intro v300 d300))
            clear HS HBB hI k300 v300 d300
            obtain ⟨c0, c1, c2, c3, c4, c5, c6, c7⟩ := at8 (HC.out w3 T3.out)
            go_upto_region 5 with fail
            cases leaf with
            | false =>
              go_wp2_with (go_at_call 25; (with_reducible refine (CR.out _ (HI.out _ (HB.out.1.trans T3.out))).mono ?_); rintro e w4 ⟨(_ | _), rfl, hb, ht⟩ <;> have T4 := Lib.hid (T3.out.trans ht) <;> clear hb ht c0 c1 c2 c3 c4 c5 c6 c7 <;> obtain ⟨c0, c1, c2, c3, c4, c5, c6, c7⟩ := at8 (HC.out w4 T4.out))
              all_goals go_ret
              all_goals exact ⟨rfl, HB.out.1.trans T4.out⟩
            | true =>
              go_upto_if 72 with (first | (go_at_call 25; (with_reducible refine (CR.out _ (HI.out _ (HB.out.1.trans T3.out))).mono ?_); rintro e w4 ⟨(_ | _), rfl, hb, ht⟩ <;> have T4 := Lib.hid (And.intro hb (T3.out.trans ht)) <;> clear hb ht c0 c1 c2 c3 c4 c5 c6 c7 <;> obtain ⟨c0, c1, c2, c3, c4, c5, c6, c7⟩ := at8 (HC.out w4 T4.out.2)) | (go_at_call 26; (with_reducible refine (CCa.out _ (HI.out _ (HB.out.1.trans T4.out.2))).mono ?_); rintro e w5 ⟨(_ | _), rfl, hb, ht⟩ <;> have T5 := Lib.hid (And.intro hb (T4.out.2.trans ht)) <;> clear hb ht c0 c1 c2 c3 c4 c5 c6 c7 <;> obtain ⟨c0, c1, c2, c3, c4, c5, c6, c7⟩ := at8 (HC.out w5 T5.out.2)) | (go_at_call 26; (with_reducible refine (CCb.out _ (HI.out _ (HB.out.1.trans T5.out.2))).mono ?_); rintro e w6 ⟨(_ | _), rfl, hb, ht⟩ <;> have T6 := Lib.hid (And.intro hb (T5.out.2.trans ht)) <;> clear hb ht c0 c1 c2 c3 c4 c5 c6 c7))
              · go_wp2_with fail
                go_ret
                exact ⟨rfl, HB.out.1.trans T4.out.2⟩
              · go_wp2_with fail
                go_ret
                exact ⟨rfl, HB.out.1.trans T5.out.2⟩
              · go_wp2_with fail
                go_ret
                exact ⟨rfl, HB.out.1.trans T6.out.2⟩
              · skip
                have HRT : Hid (RightP true K V.length D.length high bnd ∧ (bnd = true → kl a high) ∧ (bnd = true → kl b high)) := Lib.hid ⟨by first | exact T4.out.1.1 rfl | exact T4.out.1.1 trivial, by first | exact T5.out.1.1 rfl | exact T5.out.1.1 trivial, by first | exact T6.out.1.1 rfl | exact T6.out.1.1 trivial⟩
                have HD : Hid (D.length = 0) := Lib.hid (HRT.out.1.2.2.2.1 rfl).2
                have HFH := Lib.hid HIn.out.fh
                obtain ⟨L, hL⟩ : ∃ L, zipP K V = L := ⟨_, rfl⟩
                have hLf : Lf L K V := by rw [← hL]; exact Lf.of (HRT.out.1.2.2.2.1 rfl).1
                have Y0 : Hid (Kf L K V high bnd 300) := Lib.hid ⟨hLf, (right_lf hLf).1 (by have h := HRT.out.1; rw [HD.out] at h; exact h), fitL_of hLf HIn.out.fk HIn.out.fv H300.out.1⟩
                have X0 : Hid (Vr w6 g K V D high bnd sl ge AK ck AV cv AD cd) := Lib.hid ⟨HC.out _ T6.out.2, HI.out _ (HB.out.1.trans T6.out.2)⟩
                have TW := Lib.hid (HB.out.1.trans T6.out.2)
                clear hL hLf T3 T4 T5 T6 HB HC HI HIn H300 CR CCa CCb
                go_upto_region 7 with fail
                obtain ⟨had, hhad⟩ : ∃ q, (getL L a).isSome = q := ⟨_, rfl⟩
                obtain ⟨old, hold⟩ : ∃ q, (getL L a).getD ⟨#[]⟩ = q := ⟨_, rfl⟩
                have HHAD := Lib.hid (And.intro hhad hold)
                clear hhad hold
                have HGP : Hid (getL (putL L a x) a = some x) := Lib.hid (by rw [get_put, if_pos rfl])
                obtain ⟨c0, c1, c2, c3, c4, c5, c6, c7⟩ := at8 X0.out.1
                have cp := put_l ck cv cd Y0.out.lf HD.out X0.out.2 Y0.out.ok HRT.out.2.1 HF.out.1 HF.out.2.2.1
                rw [HHAD.out.1, HHAD.out.2] at cp
                have CP := Lib.hid cp
                clear cp
                go_upto_region 8 with (go_at_call 12; (with_reducible refine CP.out.mono ?_); rintro e w7 ⟨K1, V1, P1, p1, Q1, q1, S1, s1, rfl, hlf, hg, ht⟩; have HJ := Lib.hid (And.intro hlf (And.intro hg ht)); clear hlf hg ht c0 c1 c2 c3 c4 c5 c6 c7)
                clear CP
                have Y1 : Hid (Kf (putL L a x) K1 V1 high bnd 301) := Lib.hid ⟨HJ.out.1, Y0.out.ok.put HRT.out.2.1 x, Y0.out.fit.put HF.out.1 HF.out.2.2.1⟩
                have X1 := Lib.hid (Vr.new p1 q1 s1 Y1.out HD.out HFH.out (by decide) HJ.out.2.1)
                have TJ : Hid (Turn No w6 (w7.alloc (.cells #[.bool true, .slice P1 K1.length p1, .slice Q1 V1.length q1, .slice S1 D.length s1, .string high, .bool bnd, .int .i64 sl, .int .u64 ge] 29))) := Lib.hid (HJ.out.2.2.alloc _)
                clear HJ
                generalize (w7.alloc (.cells #[.bool true, .slice P1 K1.length p1, .slice Q1 V1.length q1, .slice S1 D.length s1, .string high, .bool bnd, .int .i64 sl, .int .u64 ge] 29)) = w8 at X1 TJ ⊢
                obtain ⟨r1, hr⟩ : ∃ q, w7.heap.size = q := ⟨_, rfl⟩
                rw [hr] at X1
                rw [hr]
                clear hr
                replace X0 := Lib.hid (X0.out.no TJ.out)
                replace TW := Lib.hid (TW.out.trans TJ.out)
                clear TJ
                obtain ⟨c0, c1, c2, c3, c4, c5, c6, c7⟩ := at8 X1.out.1
                have cp := put_l p1 q1 s1 Y1.out.lf HD.out X1.out.2 Y1.out.ok HRT.out.2.1 HF.out.1 HF.out.2.2.1
                rw [HGP.out, Option.getD_some, Option.isSome_some] at cp
                have CP := Lib.hid cp
                clear cp
                go_upto_region 9 with (go_at_call 12; (with_reducible refine CP.out.mono ?_); rintro e w9 ⟨K2, V2, P2, p2, Q2, q2, S2, s2, rfl, hlf, hg, ht⟩; have HJ := Lib.hid (And.intro hlf (And.intro hg ht)); clear hlf hg ht c0 c1 c2 c3 c4 c5 c6 c7)
                clear CP
                have Y2 : Hid (Kf (putL (putL L a x) a x) K2 V2 high bnd 302) := Lib.hid ⟨HJ.out.1, Y1.out.ok.put HRT.out.2.1 x, Y1.out.fit.put HF.out.1 HF.out.2.2.1⟩
                obtain ⟨e1, e2⟩ := Y1.out.lf.uniq (by have h := Y2.out.lf; rw [put_put Y0.out.ok.1 a x] at h; exact h)
                subst e1 e2
                have X2 := Lib.hid (Vr.new p2 q2 s2 Y2.out HD.out HFH.out (by decide) HJ.out.2.1)
                have TJ : Hid (Turn No w8 (w9.alloc (.cells #[.bool true, .slice P2 K1.length p2, .slice Q2 V1.length q2, .slice S2 D.length s2, .string high, .bool bnd, .int .i64 sl, .int .u64 ge] 29))) := Lib.hid (HJ.out.2.2.alloc _)
                clear HJ
                generalize (w9.alloc (.cells #[.bool true, .slice P2 K1.length p2, .slice Q2 V1.length q2, .slice S2 D.length s2, .string high, .bool bnd, .int .i64 sl, .int .u64 ge] 29)) = w10 at X2 TJ ⊢
                obtain ⟨r2, hr⟩ : ∃ q, w9.heap.size = q := ⟨_, rfl⟩
                rw [hr] at X2
                rw [hr]
                clear hr
                replace X0 := Lib.hid (X0.out.no TJ.out)
                replace X1 := Lib.hid (X1.out.no TJ.out)
                replace TW := Lib.hid (TW.out.trans TJ.out)
                clear TJ
                obtain ⟨c0, c1, c2, c3, c4, c5, c6, c7⟩ := at8 X1.out.1
                obtain ⟨e0, e1, e2, e3, e4, e5, e6, e7⟩ := at8 X2.out.1
                have CE := Lib.hid (eq_yes ⟨true, K1, V1, D, high, bnd, ⟨sl, ge⟩⟩ P1 Q1 S1 P2 Q2 S2 p1 q1 s1 p2 q2 s2 w10 X1.out.2.k X1.out.2.v X1.out.2.d X2.out.2.k X2.out.2.v X2.out.2.d (Nat.le_trans X1.out.2.lk (by decide)) (Nat.le_trans X1.out.2.lv (by decide)) (Nat.le_trans X1.out.2.ld (by decide)))
                have CR := Lib.hid fun (W : World) (t : Turn No w10 W) => right_yes ⟨true, K1, V1, D, high, bnd, ⟨sl, ge⟩⟩ P1 Q1 S1 p1 q1 s1 W (X1.out.2.no t) (right_kf Y1.out HD.out)
                simp only at CE CR
                go_upto_region 11 with (first | (go_at_call 18; (with_reducible refine CE.out.mono ?_); rintro e w11 ⟨rfl, ht⟩; have T11 := Lib.hid ht; clear ht c0 c1 c2 c3 c4 c5 c6 c7 e0 e1 e2 e3 e4 e5 e6 e7; obtain ⟨c0, c1, c2, c3, c4, c5, c6, c7⟩ := at8 (X1.out.no T11.out).1) | (go_at_call 25; (with_reducible refine (CR.out _ T11.out).mono ?_); rintro e w12 ⟨rfl, ht⟩; have T12 := Lib.hid (T11.out.trans ht); clear ht c0 c1 c2 c3 c4 c5 c6 c7))
                replace X0 := Lib.hid (X0.out.no T12.out)
                replace X1 := Lib.hid (X1.out.no T12.out)
                replace TW := Lib.hid (TW.out.trans T12.out)
                clear CE CR T11 T12 X2 Y2
                obtain ⟨c0, c1, c2, c3, c4, c5, c6, c7⟩ := at8 X1.out.1
                have cp := del_l p1 q1 s1 Y1.out.lf HD.out X1.out.2 Y1.out.ok HRT.out.2.1 HF.out.1
                rw [HGP.out, Option.getD_some, Option.isSome_some] at cp
                have CP := Lib.hid cp
                clear cp
                go_upto_region 12 with (go_at_call 13; (with_reducible refine CP.out.mono ?_); rintro e w13 ⟨K3, V3, P3, p3, Q3, q3, S3, s3, rfl, hlf, hg, ht⟩; have HJ := Lib.hid (And.intro hlf (And.intro hg ht)); clear hlf hg ht c0 c1 c2 c3 c4 c5 c6 c7)
                clear CP
                have Y3 : Hid (Kf (delL (putL L a x) a) K3 V3 high bnd 301) := Lib.hid ⟨HJ.out.1, Y1.out.ok.del a, Y1.out.fit.del a⟩
                have X3 := Lib.hid (Vr.new p3 q3 s3 Y3.out HD.out HFH.out (by decide) HJ.out.2.1)
                have TJ : Hid (Turn No w12 (w13.alloc (.cells #[.bool true, .slice P3 K3.length p3, .slice Q3 V3.length q3, .slice S3 D.length s3, .string high, .bool bnd, .int .i64 sl, .int .u64 ge] 29))) := Lib.hid (HJ.out.2.2.alloc _)
                clear HJ
                generalize (w13.alloc (.cells #[.bool true, .slice P3 K3.length p3, .slice Q3 V3.length q3, .slice S3 D.length s3, .string high, .bool bnd, .int .i64 sl, .int .u64 ge] 29)) = w14 at X3 TJ ⊢
                obtain ⟨r3, hr⟩ : ∃ q, w13.heap.size = q := ⟨_, rfl⟩
                rw [hr] at X3
                rw [hr]
                clear hr
                replace X0 := Lib.hid (X0.out.no TJ.out)
                replace X1 := Lib.hid (X1.out.no TJ.out)
                replace TW := Lib.hid (TW.out.trans TJ.out)
                clear TJ
                obtain ⟨c0, c1, c2, c3, c4, c5, c6, c7⟩ := at8 X0.out.1
                have cp := del_l ck cv cd Y0.out.lf HD.out X0.out.2 Y0.out.ok HRT.out.2.1 HF.out.1
                have CP := Lib.hid cp
                clear cp
                go_upto_region 13 with (go_at_call 13; (with_reducible refine CP.out.mono ?_); rintro e w15 ⟨K4, V4, P4, p4, Q4, q4, S4, s4, rfl, hlf, hg, ht⟩; have HJ := Lib.hid (And.intro hlf (And.intro hg ht)); clear hlf hg ht c0 c1 c2 c3 c4 c5 c6 c7)
                clear CP
                have Y4 : Hid (Kf (delL L a) K4 V4 high bnd 300) := Lib.hid ⟨HJ.out.1, Y0.out.ok.del a, Y0.out.fit.del a⟩
                obtain ⟨e1, e2⟩ := (show Lf (delL L a) K3 V3 by have h := Y3.out.lf; rw [del_put Y0.out.ok.1 a x] at h; exact h).uniq Y4.out.lf
                subst e1 e2
                have X4 := Lib.hid (Vr.new p4 q4 s4 Y4.out HD.out HFH.out (by decide) HJ.out.2.1)
                have TJ : Hid (Turn No w14 (w15.alloc (.cells #[.bool true, .slice P4 K3.length p4, .slice Q4 V3.length q4, .slice S4 D.length s4, .string high, .bool bnd, .int .i64 sl, .int .u64 ge] 29))) := Lib.hid (HJ.out.2.2.alloc _)
                clear HJ
                generalize (w15.alloc (.cells #[.bool true, .slice P4 K3.length p4, .slice Q4 V3.length q4, .slice S4 D.length s4, .string high, .bool bnd, .int .i64 sl, .int .u64 ge] 29)) = w16 at X4 TJ ⊢
                obtain ⟨r4, hr⟩ : ∃ q, w15.heap.size = q := ⟨_, rfl⟩
                rw [hr] at X4
                rw [hr]
                clear hr
                replace X0 := Lib.hid (X0.out.no TJ.out)
                replace X1 := Lib.hid (X1.out.no TJ.out)
                replace X3 := Lib.hid (X3.out.no TJ.out)
                replace TW := Lib.hid (TW.out.trans TJ.out)
                clear TJ
                have CE := Lib.hid (eq_yes ⟨true, K3, V3, D, high, bnd, ⟨sl, ge⟩⟩ P3 Q3 S3 P4 Q4 S4 p3 q3 s3 p4 q4 s4 w16 X3.out.2.k X3.out.2.v X3.out.2.d X4.out.2.k X4.out.2.v X4.out.2.d (Nat.le_trans X3.out.2.lk (by decide)) (Nat.le_trans X3.out.2.lv (by decide)) (Nat.le_trans X3.out.2.ld (by decide)))
                have CE2 : Hid (had = false → ∀ W, Turn No w16 W → Calls Try.prog 18 #[.agg #[.bool true, .slice P3 K3.length p3, .slice Q3 V3.length q3, .slice S3 D.length s3, .string high, .bool bnd, .int .i64 sl, .int .u64 ge], .agg #[.bool true, .slice AK K.length ck, .slice AV V.length cv, .slice AD D.length cd, .string high, .bool bnd, .int .i64 sl, .int .u64 ge]] W fun e w' => e = .returned (.bool true) ∧ Turn No W w') := Lib.hid fun hf W t => by
                  have hn : getL L a = none := by
                    have := HHAD.out.1
                    rw [hf] at this
                    cases hg : getL L a with
                    | none => rfl
                    | some v => rw [hg] at this; cases this
                  have hl := Y3.out.lf
                  rw [del_put Y0.out.ok.1 a x, del_none Y0.out.ok.1 hn] at hl
                  obtain ⟨q1, q2⟩ := Y0.out.lf.uniq hl
                  have hin := X0.out.2.no t
                  have hin3 := X3.out.2.no t
                  subst q1 q2
                  exact eq_yes ⟨true, K, V, D, high, bnd, ⟨sl, ge⟩⟩ P3 Q3 S3 AK AV AD p3 q3 s3 ck cv cd W hin3.k hin3.v hin3.d hin.k hin.v hin.d (Nat.le_trans hin3.lk (by decide)) (Nat.le_trans hin3.lv (by decide)) (Nat.le_trans hin3.ld (by decide))
                simp only at CE
                obtain ⟨c0, c1, c2, c3, c4, c5, c6, c7⟩ := at8 X3.out.1
                obtain ⟨e0, e1, e2, e3, e4, e5, e6, e7⟩ := at8 X4.out.1
                go_upto_region 13 with fail
                go_cut [143] from 121 to 143 (fun s wx => s = .bool false ∧ Hid (Turn No w16 wx))
                case first =>
                  cases had with
                  | true =>
                    go_wp2_with (go_at_call 18; (with_reducible refine CE.out.mono ?_); rintro e w17 ⟨rfl, ht⟩; have T17 := Lib.hid ht; clear ht c0 c1 c2 c3 c4 c5 c6 c7 e0 e1 e2 e3 e4 e5 e6 e7)
                    go_meet
                    exact ⟨rfl, T17⟩
                  | false =>
                    go_wp2_with (first | (go_at_call 18; (with_reducible refine CE.out.mono ?_); rintro e w17 ⟨rfl, ht⟩; have T17 := Lib.hid ht; clear ht c0 c1 c2 c3 c4 c5 c6 c7 e0 e1 e2 e3 e4 e5 e6 e7; obtain ⟨c0, c1, c2, c3, c4, c5, c6, c7⟩ := at8 (X3.out.no T17.out).1; obtain ⟨e0, e1, e2, e3, e4, e5, e6, e7⟩ := at8 (X0.out.no T17.out).1) | (go_at_call 18; (with_reducible refine (CE2.out (by first | rfl | trivial) _ T17.out).mono ?_); rintro e w18 ⟨rfl, ht⟩; have T18 := Lib.hid (T17.out.trans ht); clear ht c0 c1 c2 c3 c4 c5 c6 c7 e0 e1 e2 e3 e4 e5 e6 e7))
                    go_meet
                    exact ⟨rfl, T18⟩
                case rest =>
                  obtain ⟨rfl, T18⟩ := hcut
                  generalize wc = w18 at T18 ⊢
                  clear c0 c1 c2 c3 c4 c5 c6 c7 e0 e1 e2 e3 e4 e5 e6 e7 CE CE2
                  replace X0 := Lib.hid (X0.out.no T18.out)
                  replace X1 := Lib.hid (X1.out.no T18.out)
                  replace TW := Lib.hid (TW.out.trans T18.out)
                  clear T18 X3 X4 Y3 Y4
                  by_cases hab : a = b
                  · subst hab
                    go_wp2_with fail
                    go_ret
                    exact ⟨rfl, TW.out⟩
                  · have hq : (a.toList == b.toList) = false := by rw [bytes_beq, decide_eq_false hab]
                    have HAB := Lib.hid hab
                    clear hab
                    go_upto_region 17 with fail
                    obtain ⟨c0, c1, c2, c3, c4, c5, c6, c7⟩ := at8 X1.out.1
                    have cp := put_l p1 q1 s1 Y1.out.lf HD.out X1.out.2 Y1.out.ok HRT.out.2.2 HF.out.2.1 HF.out.2.2.2
                    have CP := Lib.hid cp
                    clear cp
                    go_upto_region 18 with (go_at_call 12; (with_reducible refine CP.out.mono ?_); rintro e w19 ⟨K5, V5, P5, p5, Q5, q5, S5, s5, rfl, hlf, hg, ht⟩; have HJ := Lib.hid (And.intro hlf (And.intro hg ht)); clear hlf hg ht c0 c1 c2 c3 c4 c5 c6 c7)
                    clear CP
                    have Y5 : Hid (Kf (putL (putL L a x) b y) K5 V5 high bnd 302) := Lib.hid ⟨HJ.out.1, Y1.out.ok.put HRT.out.2.2 y, Y1.out.fit.put HF.out.2.1 HF.out.2.2.2⟩
                    have X5 := Lib.hid (Vr.new p5 q5 s5 Y5.out HD.out HFH.out (by decide) HJ.out.2.1)
                    have TJ : Hid (Turn No w18 (w19.alloc (.cells #[.bool true, .slice P5 K5.length p5, .slice Q5 V5.length q5, .slice S5 D.length s5, .string high, .bool bnd, .int .i64 sl, .int .u64 ge] 29))) := Lib.hid (HJ.out.2.2.alloc _)
                    have G5 : Hid (Got w18.heap.size (w19.alloc (.cells #[.bool true, .slice P5 K5.length p5, .slice Q5 V5.length q5, .slice S5 D.length s5, .string high, .bool bnd, .int .i64 sl, .int .u64 ge] 29)) ⟨true, K5, V5, D, high, bnd, ⟨sl, ge⟩⟩ P5 Q5 S5) := Lib.hid (HJ.out.2.1.no ((Turn.refl _ _).alloc _))
                    clear HJ
                    generalize (w19.alloc (.cells #[.bool true, .slice P5 K5.length p5, .slice Q5 V5.length q5, .slice S5 D.length s5, .string high, .bool bnd, .int .i64 sl, .int .u64 ge] 29)) = w20 at X5 TJ G5 ⊢
                    obtain ⟨r5, hr⟩ : ∃ q, w19.heap.size = q := ⟨_, rfl⟩
                    rw [hr] at X5
                    rw [hr]
                    clear hr
                    replace X0 := Lib.hid (X0.out.no TJ.out)
                    replace X1 := Lib.hid (X1.out.no TJ.out)
                    replace TW := Lib.hid (TW.out.trans TJ.out)
                    clear TJ
                    obtain ⟨c0, c1, c2, c3, c4, c5, c6, c7⟩ := at8 X0.out.1
                    have cp := put_l ck cv cd Y0.out.lf HD.out X0.out.2 Y0.out.ok HRT.out.2.2 HF.out.2.1 HF.out.2.2.2
                    have CP := Lib.hid cp
                    clear cp
                    go_upto_region 19 with (go_at_call 12; (with_reducible refine CP.out.mono ?_); rintro e w21 ⟨K6, V6, P6, p6, Q6, q6, S6, s6, rfl, hlf, hg, ht⟩; have HJ := Lib.hid (And.intro hlf (And.intro hg ht)); clear hlf hg ht c0 c1 c2 c3 c4 c5 c6 c7)
                    clear CP
                    have Y6 : Hid (Kf (putL L b y) K6 V6 high bnd 301) := Lib.hid ⟨HJ.out.1, Y0.out.ok.put HRT.out.2.2 y, Y0.out.fit.put HF.out.2.1 HF.out.2.2.2⟩
                    have X6 := Lib.hid (Vr.new p6 q6 s6 Y6.out HD.out HFH.out (by decide) HJ.out.2.1)
                    have TJ : Hid (Turn No w20 (w21.alloc (.cells #[.bool true, .slice P6 K6.length p6, .slice Q6 V6.length q6, .slice S6 D.length s6, .string high, .bool bnd, .int .i64 sl, .int .u64 ge] 29))) := Lib.hid (HJ.out.2.2.alloc _)
                    have HW6 : Hid (w.heap.size ≤ w21.heap.size) := Lib.hid (Nat.le_trans TW.out.size HJ.out.2.2.size)
                    have HNE : Hid (r5 < w21.heap.size) := Lib.hid (Nat.lt_of_lt_of_le X5.out.1.lt HJ.out.2.2.size)
                    clear HJ
                    generalize (w21.alloc (.cells #[.bool true, .slice P6 K6.length p6, .slice Q6 V6.length q6, .slice S6 D.length s6, .string high, .bool bnd, .int .i64 sl, .int .u64 ge] 29)) = w22 at X6 TJ ⊢
                    obtain ⟨r6, hr⟩ : ∃ q, w21.heap.size = q := ⟨_, rfl⟩
                    rw [hr] at X6 HNE HW6
                    rw [hr]
                    clear hr
                    replace X0 := Lib.hid (X0.out.no TJ.out)
                    replace X1 := Lib.hid (X1.out.no TJ.out)
                    replace X5 := Lib.hid (X5.out.no TJ.out)
                    replace G5 := Lib.hid (G5.out.no TJ.out)
                    replace TW := Lib.hid (TW.out.trans TJ.out)
                    clear TJ
                    obtain ⟨c0, c1, c2, c3, c4, c5, c6, c7⟩ := at8 X6.out.1
                    have cp := put_l p6 q6 s6 Y6.out.lf HD.out X6.out.2 Y6.out.ok HRT.out.2.1 HF.out.1 HF.out.2.2.1
                    have CP := Lib.hid cp
                    clear cp
                    go_upto_region 20 with (go_at_call 12; (with_reducible refine CP.out.mono ?_); rintro e w23 ⟨K7, V7, P7, p7, Q7, q7, S7, s7, rfl, hlf, hg, ht⟩; have HJ := Lib.hid (And.intro hlf (And.intro hg ht)); clear hlf hg ht c0 c1 c2 c3 c4 c5 c6 c7; obtain ⟨c0, c1, c2, c3, c4, c5, c6, c7⟩ := at8 (X6.out.no HJ.out.2.2).1; obtain ⟨z0, z1, z2, z3, z4, z5, z6, z7⟩ := th8 (X6.out.no HJ.out.2.2).1)
                    clear CP c0 c1 c2 c3 c4 c5 c6 c7 z0 z1 z2 z3 z4 z5 z6 z7
                    obtain ⟨f1, f2⟩ := (show Lf (putL (putL L a x) b y) K7 V7 by have h := HJ.out.1; rw [← put_comm Y0.out.ok.1 x y HAB.out] at h; exact h).uniq Y5.out.lf
                    subst f1 f2
                    have tw := turn8 w23 r6 (.bool true) (.slice P7 K7.length p7) (.slice Q7 V7.length q7) (.slice S7 D.length s7) (.string high) (.bool bnd) (.int .i64 sl) (.int .u64 ge)
                    have HX : Hid (At ((((((((w23.setCell ⟨r6, 0, none⟩ (.bool true)).setCell ⟨r6, 1, none⟩ (.slice P7 K7.length p7)).setCell ⟨r6, 2, none⟩ (.slice Q7 V7.length q7)).setCell ⟨r6, 3, none⟩ (.slice S7 D.length s7)).setCell ⟨r6, 4, none⟩ (.string high)).setCell ⟨r6, 5, none⟩ (.bool bnd)).setCell ⟨r6, 6, none⟩ (.int .i64 sl)).setCell ⟨r6, 7, none⟩ (.int .u64 ge)) r6 (.cells #[.bool true, .slice P7 K7.length p7, .slice Q7 V7.length q7, .slice S7 D.length s7, .string high, .bool bnd, .int .i64 sl, .int .u64 ge] 29 (0, 0)) ∧ At ((((((((w23.setCell ⟨r6, 0, none⟩ (.bool true)).setCell ⟨r6, 1, none⟩ (.slice P7 K7.length p7)).setCell ⟨r6, 2, none⟩ (.slice Q7 V7.length q7)).setCell ⟨r6, 3, none⟩ (.slice S7 D.length s7)).setCell ⟨r6, 4, none⟩ (.string high)).setCell ⟨r6, 5, none⟩ (.bool bnd)).setCell ⟨r6, 6, none⟩ (.int .i64 sl)).setCell ⟨r6, 7, none⟩ (.int .u64 ge)) r5 (.cells #[.bool true, .slice P5 K7.length p5, .slice Q5 V7.length q5, .slice S5 D.length s5, .string high, .bool bnd, .int .i64 sl, .int .u64 ge] 29 (0, 0)) ∧ (Row ((((((((w23.setCell ⟨r6, 0, none⟩ (.bool true)).setCell ⟨r6, 1, none⟩ (.slice P7 K7.length p7)).setCell ⟨r6, 2, none⟩ (.slice Q7 V7.length q7)).setCell ⟨r6, 3, none⟩ (.slice S7 D.length s7)).setCell ⟨r6, 4, none⟩ (.string high)).setCell ⟨r6, 5, none⟩ (.bool bnd)).setCell ⟨r6, 6, none⟩ (.int .i64 sl)).setCell ⟨r6, 7, none⟩ (.int .u64 ge)) P5 (kcs K7) ∧ Row ((((((((w23.setCell ⟨r6, 0, none⟩ (.bool true)).setCell ⟨r6, 1, none⟩ (.slice P7 K7.length p7)).setCell ⟨r6, 2, none⟩ (.slice Q7 V7.length q7)).setCell ⟨r6, 3, none⟩ (.slice S7 D.length s7)).setCell ⟨r6, 4, none⟩ (.string high)).setCell ⟨r6, 5, none⟩ (.bool bnd)).setCell ⟨r6, 6, none⟩ (.int .i64 sl)).setCell ⟨r6, 7, none⟩ (.int .u64 ge)) Q5 (kcs V7) ∧ Row ((((((((w23.setCell ⟨r6, 0, none⟩ (.bool true)).setCell ⟨r6, 1, none⟩ (.slice P7 K7.length p7)).setCell ⟨r6, 2, none⟩ (.slice Q7 V7.length q7)).setCell ⟨r6, 3, none⟩ (.slice S7 D.length s7)).setCell ⟨r6, 4, none⟩ (.string high)).setCell ⟨r6, 5, none⟩ (.bool bnd)).setCell ⟨r6, 6, none⟩ (.int .i64 sl)).setCell ⟨r6, 7, none⟩ (.int .u64 ge)) S5 (hcs D)) ∧ (Row ((((((((w23.setCell ⟨r6, 0, none⟩ (.bool true)).setCell ⟨r6, 1, none⟩ (.slice P7 K7.length p7)).setCell ⟨r6, 2, none⟩ (.slice Q7 V7.length q7)).setCell ⟨r6, 3, none⟩ (.slice S7 D.length s7)).setCell ⟨r6, 4, none⟩ (.string high)).setCell ⟨r6, 5, none⟩ (.bool bnd)).setCell ⟨r6, 6, none⟩ (.int .i64 sl)).setCell ⟨r6, 7, none⟩ (.int .u64 ge)) P7 (kcs K7) ∧ Row ((((((((w23.setCell ⟨r6, 0, none⟩ (.bool true)).setCell ⟨r6, 1, none⟩ (.slice P7 K7.length p7)).setCell ⟨r6, 2, none⟩ (.slice Q7 V7.length q7)).setCell ⟨r6, 3, none⟩ (.slice S7 D.length s7)).setCell ⟨r6, 4, none⟩ (.string high)).setCell ⟨r6, 5, none⟩ (.bool bnd)).setCell ⟨r6, 6, none⟩ (.int .i64 sl)).setCell ⟨r6, 7, none⟩ (.int .u64 ge)) Q7 (kcs V7) ∧ Row ((((((((w23.setCell ⟨r6, 0, none⟩ (.bool true)).setCell ⟨r6, 1, none⟩ (.slice P7 K7.length p7)).setCell ⟨r6, 2, none⟩ (.slice Q7 V7.length q7)).setCell ⟨r6, 3, none⟩ (.slice S7 D.length s7)).setCell ⟨r6, 4, none⟩ (.string high)).setCell ⟨r6, 5, none⟩ (.bool bnd)).setCell ⟨r6, 6, none⟩ (.int .i64 sl)).setCell ⟨r6, 7, none⟩ (.int .u64 ge)) S7 (hcs D)) ∧ Turn No w ((((((((w23.setCell ⟨r6, 0, none⟩ (.bool true)).setCell ⟨r6, 1, none⟩ (.slice P7 K7.length p7)).setCell ⟨r6, 2, none⟩ (.slice Q7 V7.length q7)).setCell ⟨r6, 3, none⟩ (.slice S7 D.length s7)).setCell ⟨r6, 4, none⟩ (.string high)).setCell ⟨r6, 5, none⟩ (.bool bnd)).setCell ⟨r6, 6, none⟩ (.int .i64 sl)).setCell ⟨r6, 7, none⟩ (.int .u64 ge))) := Lib.hid (by
                      have h6 := (X6.out.no HJ.out.2.2).1
                      have hne := HNE.out
                      have hw : w.heap.size ≤ r6 := HW6.out
                      exact ⟨put8 h6 _ _ _ _ _ _ _ _, (X5.out.no HJ.out.2.2).1.turn tw (by omega), (G5.out.no HJ.out.2.2).wr h6 tw, HJ.out.2.1.wr h6 tw, (TW.out.trans HJ.out.2.2).then tw fun i hi e => by omega⟩)
                    clear tw
                    generalize ((((((((w23.setCell ⟨r6, 0, none⟩ (.bool true)).setCell ⟨r6, 1, none⟩ (.slice P7 K7.length p7)).setCell ⟨r6, 2, none⟩ (.slice Q7 V7.length q7)).setCell ⟨r6, 3, none⟩ (.slice S7 D.length s7)).setCell ⟨r6, 4, none⟩ (.string high)).setCell ⟨r6, 5, none⟩ (.bool bnd)).setCell ⟨r6, 6, none⟩ (.int .i64 sl)).setCell ⟨r6, 7, none⟩ (.int .u64 ge)) = w24 at HX ⊢
                    obtain ⟨c0, c1, c2, c3, c4, c5, c6, c7⟩ := at8 HX.out.2.1
                    obtain ⟨e0, e1, e2, e3, e4, e5, e6, e7⟩ := at8 HX.out.1
                    have hl := X5.out.2
                    have CE := Lib.hid (eq_yes ⟨true, K7, V7, D, high, bnd, ⟨sl, ge⟩⟩ P5 Q5 S5 P7 Q7 S7 p5 q5 s5 p7 q7 s7 w24 HX.out.2.2.1.1 HX.out.2.2.1.2.1 HX.out.2.2.1.2.2 HX.out.2.2.2.1.1 HX.out.2.2.2.1.2.1 HX.out.2.2.2.1.2.2 (Nat.le_trans hl.lk (by decide)) (Nat.le_trans hl.lv (by decide)) (Nat.le_trans hl.ld (by decide)))
                    simp only at CE
                    clear hl
                    go_wp2_with (go_at_call 18; (with_reducible refine CE.out.mono ?_); rintro e w25 ⟨rfl, ht⟩; have T25 := Lib.hid ht; clear ht)
                    go_ret
                    exact ⟨rfl, HX.out.2.2.2.2.trans T25.out⟩
end Go.Proofs.Ytengbkopihiiaaa
