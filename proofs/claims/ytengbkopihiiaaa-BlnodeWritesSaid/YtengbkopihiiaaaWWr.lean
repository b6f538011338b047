/-
  The law BlnodeWrites.
-/
import Derived.Test.YtengbkopihiiaaaWh
namespace Go.Proofs.Ytengbkopihiiaaa
open Go.RowKit Go.Lib
set_option linter.unusedVariables false
set_option maxRecDepth 20000
set_option linter.unusedSimpArgs false

set_option maxRecDepth 100000 in
set_option maxHeartbeats 64000000 in
theorem writes_any (n : Nd) (AK AV AD : Option Addr) (ck cv cd : Nat) (key val : ByteArray) (kid : Hn) (w : World) (hin2 : InN w n AK AV AD ∧ n.keys.length ≤ ck ∧ n.kids.length ≤ cd) (fk : Fit key) (fv : Fit val) :
    Calls Try.prog 5 #[.agg #[.bool n.leaf, .slice AK n.keys.length ck, .slice AV n.vals.length cv, .slice AD n.kids.length cd, .string n.high, .bool n.bnd, .int .i64 n.nx.slot, .int .u64 n.nx.gen], .string key, .string val, .agg #[.int .i64 kid.slot, .int .u64 kid.gen]] w fun e w' => e = .returned (.bool true) ∧ Turn No w w' := by
  obtain ⟨hin, hcap⟩ := hin2
  obtain ⟨leaf, K, V, D, high, bnd, ⟨sl, ge⟩⟩ := n
  have CA := Lib.hid fun (W : World) => awake_c W
  have HIn := Lib.hid hin
  have CG := Lib.hid fun (W : World) (t : Turn No w W) => great_any leaf K V.length D.length high bnd sl ge AK AV AD ck cv cd W (HIn.out.k.no t) HIn.out.fk HIn.out.fh HIn.out.lk HIn.out.lv HIn.out.ld
  have HS : Hid (SmallN K V.length D.length high → K.length ≤ 300 ∧ V.length ≤ 300 ∧ D.length ≤ 301 ∧ ∀ W, Turn No w W → In W ⟨leaf, K, V, D, high, bnd, ⟨sl, ge⟩⟩ AK AV AD) := Lib.hid fun hs => ⟨hs.1, hs.2.1, hs.2.2.1, fun W t => ⟨HIn.out.k.no t, HIn.out.v.no t, HIn.out.d.no t, HIn.out.fk, HIn.out.fv, HIn.out.fh, Nat.le_trans hs.1 (by decide), Nat.le_trans hs.2.1 (by decide), Nat.le_trans hs.2.2.1 (by decide)⟩⟩
  have t1 : Turn No w (w.alloc (.cells #[.bool leaf, .slice AK K.length ck, .slice AV V.length cv, .slice AD D.length cd, .string high, .bool bnd, .int .i64 sl, .int .u64 ge] 29)) := (Turn.refl _ _).alloc _
  have t2 : Turn No (w.alloc (.cells #[.bool leaf, .slice AK K.length ck, .slice AV V.length cv, .slice AD D.length cd, .string high, .bool bnd, .int .i64 sl, .int .u64 ge] 29)) ((w.alloc (.cells #[.bool leaf, .slice AK K.length ck, .slice AV V.length cv, .slice AD D.length cd, .string high, .bool bnd, .int .i64 sl, .int .u64 ge] 29)).alloc (.cells #[.int .i64 kid.slot, .int .u64 kid.gen] 27)) := (Turn.refl _ _).alloc _
  have a1 := (At.new w (.cells #[.bool leaf, .slice AK K.length ck, .slice AV V.length cv, .slice AD D.length cd, .string high, .bool bnd, .int .i64 sl, .int .u64 ge] 29)).no t2
  have a2 := At.new (w.alloc (.cells #[.bool leaf, .slice AK K.length ck, .slice AV V.length cv, .slice AD D.length cd, .string high, .bool bnd, .int .i64 sl, .int .u64 ge] 29)) (.cells #[.int .i64 kid.slot, .int .u64 kid.gen] 27)
  rw [World.size_alloc] at a2
  have HB : Hid (Turn No w ((w.alloc (.cells #[.bool leaf, .slice AK K.length ck, .slice AV V.length cv, .slice AD D.length cd, .string high, .bool bnd, .int .i64 sl, .int .u64 ge] 29)).alloc (.cells #[.int .i64 kid.slot, .int .u64 kid.gen] 27)) ∧ At ((w.alloc (.cells #[.bool leaf, .slice AK K.length ck, .slice AV V.length cv, .slice AD D.length cd, .string high, .bool bnd, .int .i64 sl, .int .u64 ge] 29)).alloc (.cells #[.int .i64 kid.slot, .int .u64 kid.gen] 27)) w.heap.size (.cells #[.bool leaf, .slice AK K.length ck, .slice AV V.length cv, .slice AD D.length cd, .string high, .bool bnd, .int .i64 sl, .int .u64 ge] 29 (0, 0)) ∧ At ((w.alloc (.cells #[.bool leaf, .slice AK K.length ck, .slice AV V.length cv, .slice AD D.length cd, .string high, .bool bnd, .int .i64 sl, .int .u64 ge] 29)).alloc (.cells #[.int .i64 kid.slot, .int .u64 kid.gen] 27)) (w.heap.size + 1) (.cells #[.int .i64 kid.slot, .int .u64 kid.gen] 27 (0, 0))) := Lib.hid ⟨t1.trans t2, a1, a2⟩
  clear t1 t2 a1 a2
  have hm1 := HIn.out.lk
  have hm2 := HIn.out.ld
  simp only at hm1 hm2 ⊢
  unfold maxLen at hm1 hm2
  have HCAP : Hid (K.length ≤ ck ∧ D.length ≤ cd) := Lib.hid hcap
  clear hcap
  have HF := Lib.hid (And.intro fk fv)
  unfold Fit at fk fv
  clear hin
  go_enter Try.func5, Try.ntmps5
  go_upto_region 1 with fail
  generalize ((w.alloc (.cells #[.bool leaf, .slice AK K.length ck, .slice AV V.length cv, .slice AD D.length cd, .string high, .bool bnd, .int .i64 sl, .int .u64 ge] 29)).alloc (.cells #[.int .i64 kid.slot, .int .u64 kid.gen] 27)) = w1 at HB ⊢
  generalize w.heap.size = g at HB ⊢
  have HC : Hid (∀ W, Turn No w1 W → At W g (.cells #[.bool leaf, .slice AK K.length ck, .slice AV V.length cv, .slice AD D.length cd, .string high, .bool bnd, .int .i64 sl, .int .u64 ge] 29 (0, 0))) := Lib.hid fun W t => HB.out.2.1.no t
  go_wp2_with fail
  (with_reducible refine (CA.out _).mono ?_)
  rintro e w2 ⟨rfl, ht⟩
  have T2 := Lib.hid ht
  clear ht
  go_upto_region 3 with fail
  obtain ⟨c0, c1, c2, c3, c4, c5, c6, c7⟩ := at8 (HC.out w2 T2.out)
  go_wp2_with fail
  (with_reducible refine (CG.out _ (HB.out.1.trans T2.out)).mono ?_)
  rintro e w3 ⟨bb, rfl, hb, ht⟩
  have T3 := Lib.hid (T2.out.trans ht)
  have HBB := Lib.hid hb
  clear ht hb c0 c1 c2 c3 c4 c5 c6 c7 T2 CG CA
  cases bb with
  | true =>
    go_wp2_with fail
    go_ret
    exact ⟨rfl, HB.out.1.trans T3.out⟩
  | false =>
    by_cases hl0 : 20000 < key.size
    · have q0 : (20000 : Int) < (key.size : Int) := by omega
      go_wp2_with fail
      go_ret
      exact ⟨rfl, HB.out.1.trans T3.out⟩
    · have q0 : ¬ (20000 : Int) < (key.size : Int) := by omega
      by_cases hl1 : 20000 < val.size
      · have q1 : (20000 : Int) < (val.size : Int) := by omega
        go_wp2_with fail
        go_ret
        exact ⟨rfl, HB.out.1.trans T3.out⟩
      · have q1 : ¬ (20000 : Int) < (val.size : Int) := by omega
        obtain ⟨k300, v300, d300, hI⟩ := HS.out (HBB.out rfl)
        have HI := Lib.hid hI
        have H300 := Lib.hid (And.intro k300 (And.intro v300 d300))
        clear HS HBB hI k300 v300 d300
        obtain ⟨c0, c1, c2, c3, c4, c5, c6, c7⟩ := at8 (HC.out w3 T3.out)
        go_upto_region 5 with fail
        have T15 := Lib.hid T3.out
        clear T3
        have C := Lib.hid (copied_any leaf K V D high bnd sl ge AK AV AD ck cv cd w3 (HI.out _ (HB.out.1.trans T15.out)).k (HI.out _ (HB.out.1.trans T15.out)).v (HI.out _ (HB.out.1.trans T15.out)).d (Nat.le_trans (HI.out _ (HB.out.1.trans T15.out)).lk (by decide)) (Nat.le_trans (HI.out _ (HB.out.1.trans T15.out)).lv (by decide)) (Nat.le_trans (HI.out _ (HB.out.1.trans T15.out)).ld (by decide)))
        go_upto_region 6 with (go_at_call 29; (with_reducible refine C.out.mono ?_); rintro e w4 ⟨O1, o1, O2, o2, O3, o3, rfl, ho, ht⟩; have HJ := Lib.hid (And.intro ho ht); clear ho ht c0 c1 c2 c3 c4 c5 c6 c7)
        have XO := Lib.hid (And.intro (At.new w4 (.cells #[.bool leaf, .slice O1 K.length o1, .slice O2 V.length o2, .slice O3 D.length o3, .string high, .bool bnd, .int .i64 sl, .int .u64 ge] 29)) (HJ.out.1.no ((Turn.refl No w4).alloc (.cells #[.bool leaf, .slice O1 K.length o1, .slice O2 V.length o2, .slice O3 D.length o3, .string high, .bool bnd, .int .i64 sl, .int .u64 ge] 29))))
        have TJ := Lib.hid (HJ.out.2.alloc (.cells #[.bool leaf, .slice O1 K.length o1, .slice O2 V.length o2, .slice O3 D.length o3, .string high, .bool bnd, .int .i64 sl, .int .u64 ge] 29))
        clear HJ C
        generalize (w4.alloc (.cells #[.bool leaf, .slice O1 K.length o1, .slice O2 V.length o2, .slice O3 D.length o3, .string high, .bool bnd, .int .i64 sl, .int .u64 ge] 29)) = w5 at XO TJ ⊢
        obtain ⟨r9, hr⟩ : ∃ q, w4.heap.size = q := ⟨_, rfl⟩
        rw [hr] at XO
        rw [hr]
        clear hr
        replace T15 := Lib.hid (T15.out.trans TJ.out)
        clear TJ
        have IO := Lib.hid (in_own (n := ⟨leaf, K, V, D, high, bnd, ⟨sl, ge⟩⟩) (HI.out _ (HB.out.1.trans T15.out)) XO.out.2)
        replace XO := Lib.hid XO.out.1
        obtain ⟨lb, ab, was, is, KA, VA, KB, VB, KC, DC, hW⟩ := wr_plain leaf K V D high bnd sl ge key val kid
        have HW := Lib.hid hW
        clear hW
        obtain ⟨c0, c1, c2, c3, c4, c5, c6, c7⟩ := at8 (HC.out _ T15.out)
        go_cut [10] from 41 to 51 (fun s wx => s = .bool lb ∧ Hid (Turn No w5 wx))
        case first =>
          by_cases hr : NdRight ⟨leaf, K, V, D, high, bnd, ⟨sl, ge⟩⟩
          · have C := Lib.hid (lright_yes ⟨leaf, K, V, D, high, bnd, ⟨sl, ge⟩⟩ AK AV AD ck cv cd w5 (HI.out _ (HB.out.1.trans T15.out)) hr)
            by_cases hc : NdCov ⟨leaf, K, V, D, high, bnd, ⟨sl, ge⟩⟩ key
            · have C2 := Lib.hid fun (W : World) => lcov_yes ⟨leaf, K, V, D, high, bnd, ⟨sl, ge⟩⟩ key AK AV AD ck cv cd W HF.out.1 (HI.out _ (HB.out.1.trans T15.out)).fh hc
              simp only at C C2
              have hb : lb = leaf := by
                cases hx : leaf with
                | true => exact HW.out.hlb.2 ⟨hr, hx, hc⟩
                | false =>
                  cases hy : lb with
                  | false => rfl
                  | true =>
                    have h1 : leaf = true := (HW.out.hlb.1 hy).2.1
                    rw [hx] at h1
                    cases h1
              have HBL := Lib.hid hb
              clear hb hr hc
              go_wp2_with (first | (go_at_call 22; (with_reducible refine C.out.mono ?_); rintro e w6 ⟨rfl, ht⟩; have T6 := Lib.hid ht; clear ht c0 c1 c2 c3 c4 c5 c6 c7; obtain ⟨c0, c1, c2, c3, c4, c5, c6, c7⟩ := at8 (HC.out _ (T15.out.trans T6.out))) | (go_at_call 23; (with_reducible refine (C2.out _).mono ?_); rintro e w7 ⟨rfl, ht⟩; have T7 := Lib.hid (T6.out.trans ht); clear ht c0 c1 c2 c3 c4 c5 c6 c7; obtain ⟨c0, c1, c2, c3, c4, c5, c6, c7⟩ := at8 (HC.out _ (T15.out.trans T7.out))))
              go_meet
              exact ⟨by rw [HBL.out], T7⟩
            · have C2 := Lib.hid fun (W : World) => lcov_no ⟨leaf, K, V, D, high, bnd, ⟨sl, ge⟩⟩ key AK AV AD ck cv cd W HF.out.1 (HI.out _ (HB.out.1.trans T15.out)).fh hc
              simp only at C C2
              have hb : lb = false := by
                cases hy : lb with
                | false => rfl
                | true => exact absurd (HW.out.hlb.1 hy).2.2 hc
              have HBL := Lib.hid hb
              clear hb hr hc
              go_wp2_with (first | (go_at_call 22; (with_reducible refine C.out.mono ?_); rintro e w6 ⟨rfl, ht⟩; have T6 := Lib.hid ht; clear ht c0 c1 c2 c3 c4 c5 c6 c7; obtain ⟨c0, c1, c2, c3, c4, c5, c6, c7⟩ := at8 (HC.out _ (T15.out.trans T6.out))) | (go_at_call 23; (with_reducible refine (C2.out _).mono ?_); rintro e w7 ⟨rfl, ht⟩; have T7 := Lib.hid (T6.out.trans ht); clear ht c0 c1 c2 c3 c4 c5 c6 c7; obtain ⟨c0, c1, c2, c3, c4, c5, c6, c7⟩ := at8 (HC.out _ (T15.out.trans T7.out))))
              go_meet
              exact ⟨by rw [HBL.out], T7⟩
          · have C := Lib.hid (lright_no ⟨leaf, K, V, D, high, bnd, ⟨sl, ge⟩⟩ AK AV AD ck cv cd w5 (HI.out _ (HB.out.1.trans T15.out)) hr)
            simp only at C
            have hb : lb = false := by
              cases hy : lb with
              | false => rfl
              | true => exact absurd (HW.out.hlb.1 hy).1 hr
            have HBL := Lib.hid hb
            clear hb hr
            go_wp2_with (first | (go_at_call 22; (with_reducible refine C.out.mono ?_); rintro e w6 ⟨rfl, ht⟩; have T6 := Lib.hid ht; clear ht c0 c1 c2 c3 c4 c5 c6 c7; obtain ⟨c0, c1, c2, c3, c4, c5, c6, c7⟩ := at8 (HC.out _ (T15.out.trans T6.out))))
            go_meet
            exact ⟨by rw [HBL.out], T6⟩
        obtain ⟨rfl, TJ⟩ := hcut
        generalize wc = w7 at TJ ⊢
        have T5 := Lib.hid TJ.out
        clear TJ c0 c1 c2 c3 c4 c5 c6 c7
        obtain ⟨g1, g2, hg, hget⟩ := get_w (zipP K V) key
        have HGG : Hid (lb = true → g1 = was ∧ g2 = is) := Lib.hid fun h => by
          have h1 := (HW.out.yes h).1
          rw [hg] at h1
          injection h1 with h1
          injection h1 with h1
          injection h1 with h1 h2
          injection h1 with h1
          injection h2 with h2
          injection h2 with h2
          exact ⟨h1, h2⟩
        have HGET := Lib.hid hget
        have C := Lib.hid (pairs_any leaf K V D.length high bnd sl ge AK AV AD ck cv cd w7 (HI.out _ (HB.out.1.trans (T15.out.trans T5.out))).k (HI.out _ (HB.out.1.trans (T15.out.trans T5.out))).v (Nat.le_trans (HI.out _ (HB.out.1.trans (T15.out.trans T5.out))).lk (by decide)) (Nat.le_trans (HI.out _ (HB.out.1.trans (T15.out.trans T5.out))).lv (by decide)))
        have HZL : Hid ((zipP K V).length ≤ 100000) := Lib.hid (Nat.le_trans (zip_len K V) (Nat.le_trans (HI.out _ (HB.out.1.trans (T15.out.trans T5.out))).lk (by decide)))
        clear hg hget
        obtain ⟨c0, c1, c2, c3, c4, c5, c6, c7⟩ := at8 (HC.out _ (T15.out.trans T5.out))
        go_upto_if 60 with (first | (go_at_call 31; (with_reducible refine C.out.mono ?_); rintro e w8 ⟨B, c, rfl, hp⟩; have HP := Lib.hid hp; clear hp c0 c1 c2 c3 c4 c5 c6 c7) | (go_at_call 30; (with_reducible refine (HGET.out B c _ (row_of_own HP.out.row) HZL.out).mono ?_); rintro e w9 ⟨rfl, ht⟩; have TJ := Lib.hid (HP.out.tu.trans ht); clear ht))
        replace T5 := Lib.hid (T5.out.trans TJ.out)
        clear TJ C HGET HZL HP
        go_cut [11, 12] from 53 to 60 (fun s u wx => s = .string was ∧ u = .bool is ∧ wx = w9)
        case first =>
          cases lb with
          | true =>
            obtain ⟨e1, e2⟩ := HGG.out rfl
            subst e1 e2
            go_wp2_with fail
            go_meet
            exact ⟨rfl, rfl, rfl⟩
          | false =>
            obtain ⟨e1, e2, _⟩ := HW.out.no rfl
            subst e1 e2
            go_wp2_with fail
            go_meet
            exact ⟨rfl, rfl, rfl⟩
        obtain ⟨rfl, rfl, rfl⟩ := hcut
        clear HGG
        generalize wc = w10 at T5 ⊢
        have HS5 := Lib.hid T5.out.size
        have C := Lib.hid (put_w o1 o2 o3 (IO.out.no T5.out) HF.out.1 HF.out.2 HW.out.put)
        obtain ⟨c0, c1, c2, c3, c4, c5, c6, c7⟩ := at8 (XO.out.no T5.out)
        go_upto_region 12 with (go_at_call 12; (with_reducible refine C.out.mono ?_); rintro e w11 ⟨P1, p1, P2, p2, P3, p3, rfl, hg, ht⟩; have HJ := Lib.hid (And.intro hg ht); clear hg ht c0 c1 c2 c3 c4 c5 c6 c7)
        clear C
        have HZA := Lib.hid HJ.out.2.size
        have XA := Lib.hid (And.intro (At.new w11 (.cells #[.bool leaf, .slice P1 KA.length p1, .slice P2 VA.length p2, .slice P3 D.length p3, .string high, .bool bnd, .int .i64 sl, .int .u64 ge] 29)) (HJ.out.1.no ((Turn.refl No w11).alloc (.cells #[.bool leaf, .slice P1 KA.length p1, .slice P2 VA.length p2, .slice P3 D.length p3, .string high, .bool bnd, .int .i64 sl, .int .u64 ge] 29))))
        have TJ := Lib.hid (HJ.out.2.alloc (.cells #[.bool leaf, .slice P1 KA.length p1, .slice P2 VA.length p2, .slice P3 D.length p3, .string high, .bool bnd, .int .i64 sl, .int .u64 ge] 29))
        clear HJ
        generalize (w11.alloc (.cells #[.bool leaf, .slice P1 KA.length p1, .slice P2 VA.length p2, .slice P3 D.length p3, .string high, .bool bnd, .int .i64 sl, .int .u64 ge] 29)) = w12 at XA TJ ⊢
        obtain ⟨r13, hr⟩ : ∃ q, w11.heap.size = q := ⟨_, rfl⟩
        rw [hr] at XA
        rw [hr]
        rw [hr] at HZA
        clear hr
        have HSA := Lib.hid TJ.out.size
        replace T5 := Lib.hid (T5.out.trans TJ.out)
        clear TJ
        have HXA : Hid (∀ k, Xs KA.length VA.length D.length P1 P2 P3 k → w10.heap.size ≤ k ∧ k < w12.heap.size) := Lib.hid fun k hx => xs_of XA.out.2 hx
        have C := Lib.hid (del_w o1 o2 o3 (IO.out.no T5.out) HF.out.1 HW.out.del)
        obtain ⟨c0, c1, c2, c3, c4, c5, c6, c7⟩ := at8 (XO.out.no T5.out)
        go_upto_region 13 with (go_at_call 13; (with_reducible refine C.out.mono ?_); rintro e w13 ⟨Q1, q1, Q2, q2, Q3, q3, rfl, hg, ht⟩; have HJ := Lib.hid (And.intro hg ht); clear hg ht c0 c1 c2 c3 c4 c5 c6 c7)
        clear C
        have HZB := Lib.hid HJ.out.2.size
        have XB := Lib.hid (And.intro (At.new w13 (.cells #[.bool leaf, .slice Q1 KB.length q1, .slice Q2 VB.length q2, .slice Q3 D.length q3, .string high, .bool bnd, .int .i64 sl, .int .u64 ge] 29)) (HJ.out.1.no ((Turn.refl No w13).alloc (.cells #[.bool leaf, .slice Q1 KB.length q1, .slice Q2 VB.length q2, .slice Q3 D.length q3, .string high, .bool bnd, .int .i64 sl, .int .u64 ge] 29))))
        have TJ := Lib.hid (HJ.out.2.alloc (.cells #[.bool leaf, .slice Q1 KB.length q1, .slice Q2 VB.length q2, .slice Q3 D.length q3, .string high, .bool bnd, .int .i64 sl, .int .u64 ge] 29))
        clear HJ
        generalize (w13.alloc (.cells #[.bool leaf, .slice Q1 KB.length q1, .slice Q2 VB.length q2, .slice Q3 D.length q3, .string high, .bool bnd, .int .i64 sl, .int .u64 ge] 29)) = w14 at XB TJ ⊢
        obtain ⟨r16, hr⟩ : ∃ q, w13.heap.size = q := ⟨_, rfl⟩
        rw [hr] at XB
        rw [hr]
        rw [hr] at HZB
        clear hr
        have HSB := Lib.hid TJ.out.size
        replace T5 := Lib.hid (T5.out.trans TJ.out)
        replace XA := Lib.hid (And.intro (XA.out.1.no TJ.out) (XA.out.2.no TJ.out))
        clear TJ
        have HXB : Hid (∀ k, Xs KB.length VB.length D.length Q1 Q2 Q3 k → w12.heap.size ≤ k ∧ k < w14.heap.size) := Lib.hid fun k hx => xs_of XB.out.2 hx
        have C := Lib.hid (add_w o1 o2 o3 (IO.out.no T5.out) HF.out.1 HW.out.add)
        obtain ⟨c0, c1, c2, c3, c4, c5, c6, c7⟩ := at8 (XO.out.no T5.out)
        obtain ⟨k0, k1⟩ := at2 (HB.out.2.2.no (T15.out.trans T5.out))
        go_upto_region 14 with (go_at_call 16; (with_reducible refine C.out.mono ?_); rintro e w15 ⟨R1, r1, R2, r2, R3, r3, rfl, hg, ht⟩; have HJ := Lib.hid (And.intro hg ht); clear hg ht c0 c1 c2 c3 c4 c5 c6 c7 k0 k1)
        clear C
        have HZC := Lib.hid HJ.out.2.size
        have XC := Lib.hid (And.intro (At.new w15 (.cells #[.bool leaf, .slice R1 KC.length r1, .slice R2 V.length r2, .slice R3 DC.length r3, .string high, .bool bnd, .int .i64 sl, .int .u64 ge] 29)) (HJ.out.1.no ((Turn.refl No w15).alloc (.cells #[.bool leaf, .slice R1 KC.length r1, .slice R2 V.length r2, .slice R3 DC.length r3, .string high, .bool bnd, .int .i64 sl, .int .u64 ge] 29))))
        have TJ := Lib.hid (HJ.out.2.alloc (.cells #[.bool leaf, .slice R1 KC.length r1, .slice R2 V.length r2, .slice R3 DC.length r3, .string high, .bool bnd, .int .i64 sl, .int .u64 ge] 29))
        clear HJ
        generalize (w15.alloc (.cells #[.bool leaf, .slice R1 KC.length r1, .slice R2 V.length r2, .slice R3 DC.length r3, .string high, .bool bnd, .int .i64 sl, .int .u64 ge] 29)) = w16 at XC TJ ⊢
        obtain ⟨r19, hr⟩ : ∃ q, w15.heap.size = q := ⟨_, rfl⟩
        rw [hr] at XC
        rw [hr]
        rw [hr] at HZC
        clear hr
        have HSC := Lib.hid TJ.out.size
        replace T5 := Lib.hid (T5.out.trans TJ.out)
        replace XA := Lib.hid (And.intro (XA.out.1.no TJ.out) (XA.out.2.no TJ.out))
        replace XB := Lib.hid (And.intro (XB.out.1.no TJ.out) (XB.out.2.no TJ.out))
        clear TJ
        have HXC : Hid (∀ k, Xs KC.length V.length DC.length R1 R2 R3 k → w14.heap.size ≤ k ∧ k < w16.heap.size) := Lib.hid fun k hx => xs_of XC.out.2 hx
        have HSZ0 : Hid (w5.heap.size ≤ w10.heap.size ∧ w10.heap.size ≤ w12.heap.size ∧ w12.heap.size ≤ w14.heap.size) := Lib.hid ⟨HS5.out, HSA.out, HSB.out⟩
        clear HS5 HSA HSB
        have qe := bytes_beq was was
        rw [decide_eq_true rfl] at qe
        go_upto_region 16 with fail
        clear qe
        have hA := HC.out _ (T15.out.trans T5.out)
        go_cut [20, 21, 22] from 98 to 100 (fun s u v wx => ∃ r20 r21 r22, s = .pointer (some ⟨r20, 0, none⟩) ∧ u = .pointer (some ⟨r21, 0, none⟩) ∧ v = .pointer (some ⟨r22, 0, none⟩) ∧ Hid (Turn No w16 wx ∧ (At wx r20 (.cells #[.bool leaf, .slice AK K.length ck, .slice AV V.length cv, .slice AD D.length cd, .string high, .bool bnd, .int .i64 sl, .int .u64 ge] 29 (0, 0)) ∧ At wx r21 (.cells #[.bool leaf, .slice AK K.length ck, .slice AV V.length cv, .slice AD D.length cd, .string high, .bool bnd, .int .i64 sl, .int .u64 ge] 29 (0, 0)) ∧ At wx r22 (.cells #[.bool leaf, .slice AK K.length ck, .slice AV V.length cv, .slice AD D.length cd, .string high, .bool bnd, .int .i64 sl, .int .u64 ge] 29 (0, 0))) ∧ (w16.heap.size ≤ r20 ∧ w16.heap.size ≤ r21 ∧ w16.heap.size ≤ r22) ∧ r20 ≠ r21 ∧ r20 ≠ r22 ∧ r21 ≠ r22))
        case first =>
          refine three_blocks (by rfl) (by rfl) hA ?_
          intro v98 v99 v100 r20 r21 r22 w17 t k1 k2 k3 z ne
          have HE := Lib.hid (And.intro t (And.intro (And.intro k1 (And.intro k2 k3)) (And.intro z ne)))
          clear t k1 k2 k3 z ne
          simp only [puts]
          go_wp2_with fail
          go_meet
          exact ⟨r20, r21, r22, rfl, rfl, rfl, HE⟩
        obtain ⟨r20, r21, r22, rfl, rfl, rfl, HE⟩ := hcut
        generalize wc = w17 at HE ⊢
        clear hA
        go_upto_if 101 with fail
        go_cut [8] from 102 to 114 (fun s wx => s = .bool false ∧ Hid (Turn No w16 wx ∧ At wx r22 (.cells #[.bool leaf, .slice AK K.length ck, .slice AV V.length cv, .slice AD D.length cd, .string high, .bool bnd, .int .i64 sl, .int .u64 ge] 29 (0, 0)) ∧ Wn wx r22 r20 leaf KA VA D high bnd sl ge AD cd ∧ Wn wx r22 r21 leaf KB VB D high bnd sl ge AD cd))
        case first =>
          cases lb with
          | false =>
            go_wp2_with fail
            go_meet
            obtain ⟨_, _, ⟨e1, e2⟩, e3, e4⟩ := HW.out.no rfl
            refine ⟨rfl, Lib.hid ⟨HE.out.1, HE.out.2.1.2.2, ?_, ?_⟩⟩
            · rw [e1, e2]
              exact ⟨AK, ck, AV, cv, HE.out.2.1.1, fun W t => ⟨(HI.out _ (HB.out.1.trans (T15.out.trans (T5.out.trans (HE.out.1.then t (fun i hi e => by have := HE.out.2.2.1.2.2; omega)))))).k, (HI.out _ (HB.out.1.trans (T15.out.trans (T5.out.trans (HE.out.1.then t (fun i hi e => by have := HE.out.2.2.1.2.2; omega)))))).v⟩⟩
            · rw [e3, e4]
              exact ⟨AK, ck, AV, cv, HE.out.2.1.2.1, fun W t => ⟨(HI.out _ (HB.out.1.trans (T15.out.trans (T5.out.trans (HE.out.1.then t (fun i hi e => by have := HE.out.2.2.1.2.2; omega)))))).k, (HI.out _ (HB.out.1.trans (T15.out.trans (T5.out.trans (HE.out.1.then t (fun i hi e => by have := HE.out.2.2.1.2.2; omega)))))).v⟩⟩
          | true =>
            have hl := HW.out.hlb.1 rfl
            have hvl : V.length = K.length := (hl.1.2.2.2.1 hl.2.1).1
            have hrk : Rk K := hl.1.1
            have HLK := Lib.hid (And.intro hvl hrk)
            clear hl hvl hrk
            go_upto_region 18 with fail
            have hA := (HC.out _ (T15.out.trans (T5.out.trans HE.out.1)))
            have hP : ∀ W, Turn No w17 W → Calls Try.prog 31 #[.agg #[.bool leaf, .slice AK K.length ck, .slice AV V.length cv, .slice AD D.length cd, .string high, .bool bnd, .int .i64 sl, .int .u64 ge]] W fun e w' => ∃ B c, e = .returned (.slice B (zipP K V).length c) ∧ Ps W w' (zipP K V) B c := fun W t => pairs_any leaf K V D.length high bnd sl ge AK AV AD ck cv cd W (HI.out _ (HB.out.1.trans (T15.out.trans (T5.out.trans (HE.out.1.trans t))))).k (HI.out _ (HB.out.1.trans (T15.out.trans (T5.out.trans (HE.out.1.trans t))))).v (by have := H300.out.1; have := H300.out.2.1; have := H300.out.2.2; omega) (by have := H300.out.1; have := H300.out.2.1; have := H300.out.2.2; omega)
            have hU : ∀ W B0 c0, Row W B0 (pcs (zipP K V)) → Calls Try.prog 33 #[.slice B0 (zipP K V).length c0, .string key, .string val] W fun e w' => ∃ B c, e = .returned (.slice B (putL (zipP K V) key val).length c) ∧ Ps W w' (putL (zipP K V) key val) B c := fun W B0 c0 hr => rput_any (zipP K V) key val B0 c0 W (zip_asc HLK.out.1 HLK.out.2) hr (zip_fit (n := ⟨leaf, K, V, D, high, bnd, ⟨sl, ge⟩⟩) (HI.out _ (HB.out.1.trans (T15.out.trans (T5.out.trans HE.out.1)))) HLK.out.1) HF.out.1 (by have := zip_len K V; have := H300.out.1; omega)
            have hL : (putL (zipP K V) key val).length ≤ 100000 := by have := put_length (zipP K V) key val; have := zip_len K V; have := H300.out.1; omega
            go_cut [8] from 102 to 108 (fun s wx => s = .bool false ∧ Hid (En w17 r20 leaf D high bnd sl ge AD cd (putL (zipP K V) key val) wx))
            case first =>
              refine regP18 (by rfl) (by rfl) (by rfl) (by rfl) hA HE.out.2.1.1 (by rfl) hL hP hU (by rfl) ?_
              intro v102 v103 v104 v105 v106 v107 v108 w18 hE
              have HEE := Lib.hid hE
              clear hE
              simp only [puts]
              go_wp2_with fail
              go_meet
              exact ⟨rfl, HEE⟩
            obtain ⟨rfl, HEE⟩ := hcut
            generalize wc = w18 at HEE ⊢
            clear hA hP hU hL
            have T18 := Lib.hid (HE.out.1.then HEE.out.1 (fun i hi e => by have := HE.out.2.2.1.1; omega))
            have hA := (HC.out _ (T15.out.trans (T5.out.trans T18.out)))
            have h21 := HE.out.2.1.2.1.turn HEE.out.1 (fun e => HE.out.2.2.2.1 e.symm)
            have h22 := HE.out.2.1.2.2.turn HEE.out.1 (fun e => HE.out.2.2.2.2.1 e.symm)
            have H2 := Lib.hid (And.intro h21 h22)
            clear h21 h22
            have hP : ∀ W, Turn No w18 W → Calls Try.prog 31 #[.agg #[.bool leaf, .slice AK K.length ck, .slice AV V.length cv, .slice AD D.length cd, .string high, .bool bnd, .int .i64 sl, .int .u64 ge]] W fun e w' => ∃ B c, e = .returned (.slice B (zipP K V).length c) ∧ Ps W w' (zipP K V) B c := fun W t => pairs_any leaf K V D.length high bnd sl ge AK AV AD ck cv cd W (HI.out _ (HB.out.1.trans (T15.out.trans (T5.out.trans (T18.out.trans t))))).k (HI.out _ (HB.out.1.trans (T15.out.trans (T5.out.trans (T18.out.trans t))))).v (by have := H300.out.1; have := H300.out.2.1; have := H300.out.2.2; omega) (by have := H300.out.1; have := H300.out.2.1; have := H300.out.2.2; omega)
            have hU : ∀ W B0 c0, Row W B0 (pcs (zipP K V)) → Calls Try.prog 34 #[.slice B0 (zipP K V).length c0, .string key] W fun e w' => ∃ B c, e = .returned (.slice B (delL (zipP K V) key).length c) ∧ Ps W w' (delL (zipP K V) key) B c := fun W B0 c0 hr => rdel_any (zipP K V) key B0 c0 W hr (by have := zip_len K V; have := H300.out.1; omega)
            have hL : (delL (zipP K V) key).length ≤ 100000 := by have := del_length (zipP K V) key; have := zip_len K V; have := H300.out.1; omega
            go_upto_region 19 with fail
            go_cut [8] from 109 to 114 (fun s wx => s = .bool false ∧ Hid (En w18 r21 leaf D high bnd sl ge AD cd (delL (zipP K V) key) wx))
            case first =>
              refine regD19 (by rfl) (by rfl) (by rfl) hA H2.out.1 (by rfl) hL hP hU (by rfl) ?_
              intro v109 v110 v111 v112 v113 v114 w19 hE
              have HEF := Lib.hid hE
              clear hE
              simp only [puts]
              go_wp2_with fail
              go_meet
              exact ⟨rfl, HEF⟩
            obtain ⟨rfl, HEF⟩ := hcut
            generalize wc = w19 at HEF ⊢
            clear hA hP hU hL
            have h22 := H2.out.2.turn HEF.out.1 (fun e => HE.out.2.2.2.2.2 e.symm)
            have HRES : Hid (Turn No w16 w19 ∧ At w19 r22 (.cells #[.bool leaf, .slice AK K.length ck, .slice AV V.length cv, .slice AD D.length cd, .string high, .bool bnd, .int .i64 sl, .int .u64 ge] 29 (0, 0)) ∧ Wn w19 r22 r20 leaf KA VA D high bnd sl ge AD cd ∧ Wn w19 r22 r21 leaf KB VB D high bnd sl ge AD cd) := Lib.hid (by
              obtain ⟨_, ⟨e1, e2⟩, e3, e4⟩ := HW.out.yes rfl
              refine ⟨T18.out.then HEF.out.1 (fun i hi e => by have := HE.out.2.2.1.2.1; omega), h22, ?_, ?_⟩
              · rw [e1, e2]
                exact wn_past HEE.out H2.out.1 HE.out.2.2.2.1 HEF.out.1 h22
              · rw [e3, e4]
                exact wn_of HEF.out h22)
            clear h22
            go_wp2_with fail
            go_meet
            exact ⟨rfl, HRES⟩
        obtain ⟨rfl, HV⟩ := hcut
        generalize wc = w19 at HV ⊢
        have HZR := Lib.hid HE.out.2.2
        clear HE
        have T16 := Lib.hid HV.out.1
        have C0 := place_any K key AK ck w19 (HI.out _ (HB.out.1.trans (T15.out.trans (T5.out.trans T16.out)))).k (HI.out _ (HB.out.1.trans (T15.out.trans (T5.out.trans T16.out)))).fk HF.out.1 (by have := H300.out.1; have := H300.out.2.1; have := H300.out.2.2; omega)
        obtain ⟨P, hP⟩ : ∃ x, plc K key = x := ⟨_, rfl⟩
        obtain ⟨it, hit⟩ : ∃ x, inK K key = x := ⟨_, rfl⟩
        rw [hP, hit] at C0
        have C := Lib.hid C0
        clear C0
        have HPI := Lib.hid (And.intro hP hit)
        clear hP hit
        have c1 := (HC.out _ (T15.out.trans (T5.out.trans T16.out))).cell 1
        simp at c1
        go_upto_region 21 with (go_at_call 24; (with_reducible refine C.out.mono ?_); rintro e w20 ⟨rfl, ht⟩; have TT := Lib.hid ht; clear ht)
        clear C c1
        obtain ⟨c0, c1, c2, c3, c4, c5, c6, c7⟩ := at8 (HC.out _ (T15.out.trans (T5.out.trans (T16.out.trans TT.out))))
        go_cut [137] from 122 to 137 (fun s wx => s = .bool ab ∧ Hid (Turn No w20 wx))
        case first =>
          by_cases hr : NdRight ⟨leaf, K, V, D, high, bnd, ⟨sl, ge⟩⟩
          · have C := Lib.hid (lright_yes ⟨leaf, K, V, D, high, bnd, ⟨sl, ge⟩⟩ AK AV AD ck cv cd w20 (HI.out _ (HB.out.1.trans (T15.out.trans (T5.out.trans (T16.out.trans TT.out))))) hr)
            by_cases hc : NdCov ⟨leaf, K, V, D, high, bnd, ⟨sl, ge⟩⟩ key
            · have C2 := Lib.hid fun (W : World) => lcov_yes ⟨leaf, K, V, D, high, bnd, ⟨sl, ge⟩⟩ key AK AV AD ck cv cd W HF.out.1 (HI.out _ (HB.out.1.trans (T15.out.trans (T5.out.trans (T16.out.trans TT.out))))).fh hc
              simp only at C C2
              cases leaf with
              | true =>
                have hb : ab = false := by
                  cases hy : ab with
                  | false => rfl
                  | true => have h1 := (HW.out.hab.1 hy).2.1; cases h1
                have HBL := Lib.hid hb
                clear hb hr hc
                go_wp2_with (first | (go_at_call 22; (with_reducible refine C.out.mono ?_); rintro e w21 ⟨rfl, ht⟩; have T6 := Lib.hid ht; clear ht c0 c1 c2 c3 c4 c5 c6 c7; obtain ⟨c0, c1, c2, c3, c4, c5, c6, c7⟩ := at8 (HC.out _ (T15.out.trans (T5.out.trans (T16.out.trans (TT.out.trans T6.out)))))) | (go_at_call 23; (with_reducible refine (C2.out _).mono ?_); rintro e w22 ⟨rfl, ht⟩; have T7 := Lib.hid (T6.out.trans ht); clear ht c0 c1 c2 c3 c4 c5 c6 c7; obtain ⟨c0, c1, c2, c3, c4, c5, c6, c7⟩ := at8 (HC.out _ (T15.out.trans (T5.out.trans (T16.out.trans (TT.out.trans T7.out)))))))
                go_meet
                exact ⟨by rw [HBL.out], T7⟩
              | false =>
                cases it with
                | true =>
                  have hb : ab = false := by
                    cases hy : ab with
                    | false => rfl
                    | true => exact absurd (inK_iff.1 HPI.out.2) (HW.out.hab.1 hy).2.2.2
                  have HBL := Lib.hid hb
                  clear hb hr hc
                  go_wp2_with (first | (go_at_call 22; (with_reducible refine C.out.mono ?_); rintro e w21 ⟨rfl, ht⟩; have T6 := Lib.hid ht; clear ht c0 c1 c2 c3 c4 c5 c6 c7; obtain ⟨c0, c1, c2, c3, c4, c5, c6, c7⟩ := at8 (HC.out _ (T15.out.trans (T5.out.trans (T16.out.trans (TT.out.trans T6.out)))))) | (go_at_call 23; (with_reducible refine (C2.out _).mono ?_); rintro e w22 ⟨rfl, ht⟩; have T7 := Lib.hid (T6.out.trans ht); clear ht c0 c1 c2 c3 c4 c5 c6 c7; obtain ⟨c0, c1, c2, c3, c4, c5, c6, c7⟩ := at8 (HC.out _ (T15.out.trans (T5.out.trans (T16.out.trans (TT.out.trans T7.out)))))))
                  go_meet
                  exact ⟨by rw [HBL.out], T7⟩
                | false =>
                  have hb : ab = true := HW.out.hab.2 ⟨hr, rfl, hc, inK_no.1 HPI.out.2⟩
                  have HBL := Lib.hid hb
                  clear hb hr hc
                  go_wp2_with (first | (go_at_call 22; (with_reducible refine C.out.mono ?_); rintro e w21 ⟨rfl, ht⟩; have T6 := Lib.hid ht; clear ht c0 c1 c2 c3 c4 c5 c6 c7; obtain ⟨c0, c1, c2, c3, c4, c5, c6, c7⟩ := at8 (HC.out _ (T15.out.trans (T5.out.trans (T16.out.trans (TT.out.trans T6.out)))))) | (go_at_call 23; (with_reducible refine (C2.out _).mono ?_); rintro e w22 ⟨rfl, ht⟩; have T7 := Lib.hid (T6.out.trans ht); clear ht c0 c1 c2 c3 c4 c5 c6 c7; obtain ⟨c0, c1, c2, c3, c4, c5, c6, c7⟩ := at8 (HC.out _ (T15.out.trans (T5.out.trans (T16.out.trans (TT.out.trans T7.out)))))))
                  go_meet
                  exact ⟨by rw [HBL.out], T7⟩
            · have C2 := Lib.hid fun (W : World) => lcov_no ⟨leaf, K, V, D, high, bnd, ⟨sl, ge⟩⟩ key AK AV AD ck cv cd W HF.out.1 (HI.out _ (HB.out.1.trans (T15.out.trans (T5.out.trans (T16.out.trans TT.out))))).fh hc
              simp only at C C2
              have hb : ab = false := by
                cases hy : ab with
                | false => rfl
                | true => exact absurd (HW.out.hab.1 hy).2.2.1 hc
              have HBL := Lib.hid hb
              clear hb hr hc
              go_wp2_with (first | (go_at_call 22; (with_reducible refine C.out.mono ?_); rintro e w21 ⟨rfl, ht⟩; have T6 := Lib.hid ht; clear ht c0 c1 c2 c3 c4 c5 c6 c7; obtain ⟨c0, c1, c2, c3, c4, c5, c6, c7⟩ := at8 (HC.out _ (T15.out.trans (T5.out.trans (T16.out.trans (TT.out.trans T6.out)))))) | (go_at_call 23; (with_reducible refine (C2.out _).mono ?_); rintro e w22 ⟨rfl, ht⟩; have T7 := Lib.hid (T6.out.trans ht); clear ht c0 c1 c2 c3 c4 c5 c6 c7; obtain ⟨c0, c1, c2, c3, c4, c5, c6, c7⟩ := at8 (HC.out _ (T15.out.trans (T5.out.trans (T16.out.trans (TT.out.trans T7.out)))))))
              go_meet
              exact ⟨by rw [HBL.out], T7⟩
          · have C := Lib.hid (lright_no ⟨leaf, K, V, D, high, bnd, ⟨sl, ge⟩⟩ AK AV AD ck cv cd w20 (HI.out _ (HB.out.1.trans (T15.out.trans (T5.out.trans (T16.out.trans TT.out))))) hr)
            simp only at C
            have hb : ab = false := by
              cases hy : ab with
              | false => rfl
              | true => exact absurd (HW.out.hab.1 hy).1 hr
            have HBL := Lib.hid hb
            clear hb hr
            go_wp2_with (first | (go_at_call 22; (with_reducible refine C.out.mono ?_); rintro e w21 ⟨rfl, ht⟩; have T6 := Lib.hid ht; clear ht c0 c1 c2 c3 c4 c5 c6 c7; obtain ⟨c0, c1, c2, c3, c4, c5, c6, c7⟩ := at8 (HC.out _ (T15.out.trans (T5.out.trans (T16.out.trans (TT.out.trans T6.out)))))))
            go_meet
            exact ⟨by rw [HBL.out], T6⟩
        obtain ⟨rfl, TJ⟩ := hcut
        generalize wc = w21 at TJ ⊢
        have TV := Lib.hid (TT.out.trans TJ.out)
        clear TT TJ c0 c1 c2 c3 c4 c5 c6 c7
        replace T16 := Lib.hid (T16.out.trans TV.out)
        go_upto_if 137 with fail
        go_cut [8] from 138 to 171 (fun s wx => s = .bool false ∧ Hid (Turn (fun k => k = r22) w21 wx ∧ Wc wx r22 leaf KC V DC high bnd sl ge))
        case first =>
          cases ab with
          | false =>
            go_wp2_with fail
            go_meet
            obtain ⟨e1, e2⟩ := HW.out.out rfl
            refine ⟨rfl, Lib.hid ⟨Turn.refl _ _, ?_⟩⟩
            rw [e1, e2]
            exact ⟨AK, ck, AV, cv, AD, cd, HV.out.2.1.no TV.out, (HI.out _ (HB.out.1.trans (T15.out.trans (T5.out.trans T16.out)))).k, (HI.out _ (HB.out.1.trans (T15.out.trans (T5.out.trans T16.out)))).v, (HI.out _ (HB.out.1.trans (T15.out.trans (T5.out.trans T16.out)))).d⟩
          | true =>
            have ho := HW.out.hab.1 rfl
            have hlf : leaf = false := ho.2.1
            have hdk : D.length = K.length + 1 := (ho.1.2.2.2.2 hlf).2
            subst hlf
            have HDK := Lib.hid hdk
            clear ho hdk
            have hP : P ≤ K.length := by rw [← HPI.out.1]; exact plc_le K key
            have HPL := Lib.hid hP
            clear hP
            have C := Lib.hid (copied_any false K V D high bnd sl ge AK AV AD ck cv cd w21 (HI.out _ (HB.out.1.trans (T15.out.trans (T5.out.trans T16.out)))).k (HI.out _ (HB.out.1.trans (T15.out.trans (T5.out.trans T16.out)))).v (HI.out _ (HB.out.1.trans (T15.out.trans (T5.out.trans T16.out)))).d (by have := H300.out.1; have := H300.out.2.1; have := H300.out.2.2; omega) (by have := H300.out.1; have := H300.out.2.1; have := H300.out.2.2; omega) (by have := H300.out.1; have := H300.out.2.1; have := H300.out.2.2; omega))
            obtain ⟨c0, c1, c2, c3, c4, c5, c6, c7⟩ := at8 (HC.out _ (T15.out.trans (T5.out.trans T16.out)))
            go_upto_region 23 with (go_at_call 29; (with_reducible refine C.out.mono ?_); rintro e w22 ⟨C1, d1, C2, d2, C3, d3, rfl, ho, ht⟩; have HJ := Lib.hid (And.intro ho ht); clear ho ht c0 c1 c2 c3 c4 c5 c6 c7; have h22 := (HV.out.2.1.no TV.out).no HJ.out.2; obtain ⟨e0, e1, e2, e3, e4, e5, e6, e7⟩ := at8 h22; obtain ⟨z0, z1, z2, z3, z4, z5, z6, z7⟩ := th8 h22; clear h22)
            clear C e0 e1 e2 e3 e4 e5 e6 e7 z0 z1 z2 z3 z4 z5 z6 z7
            have h22 := (HV.out.2.1.no TV.out).no HJ.out.2
            have tw := turn8 w22 r22 (.bool false) (.slice C1 K.length d1) (.slice C2 V.length d2) (.slice C3 D.length d3) (.string high) (.bool bnd) (.int .i64 sl) (.int .u64 ge)
            have HS : Hid (Turn (fun k => k = r22) w21 ((((((((w22.setCell ⟨r22, 0, none⟩ (.bool false)).setCell ⟨r22, 1, none⟩ (.slice C1 K.length d1)).setCell ⟨r22, 2, none⟩ (.slice C2 V.length d2)).setCell ⟨r22, 3, none⟩ (.slice C3 D.length d3)).setCell ⟨r22, 4, none⟩ (.string high)).setCell ⟨r22, 5, none⟩ (.bool bnd)).setCell ⟨r22, 6, none⟩ (.int .i64 sl)).setCell ⟨r22, 7, none⟩ (.int .u64 ge)) ∧ At ((((((((w22.setCell ⟨r22, 0, none⟩ (.bool false)).setCell ⟨r22, 1, none⟩ (.slice C1 K.length d1)).setCell ⟨r22, 2, none⟩ (.slice C2 V.length d2)).setCell ⟨r22, 3, none⟩ (.slice C3 D.length d3)).setCell ⟨r22, 4, none⟩ (.string high)).setCell ⟨r22, 5, none⟩ (.bool bnd)).setCell ⟨r22, 6, none⟩ (.int .i64 sl)).setCell ⟨r22, 7, none⟩ (.int .u64 ge)) r22 (.cells #[.bool false, .slice C1 K.length d1, .slice C2 V.length d2, .slice C3 D.length d3, .string high, .bool bnd, .int .i64 sl, .int .u64 ge] 29 (0, 0)) ∧ Own w21.heap.size ((((((((w22.setCell ⟨r22, 0, none⟩ (.bool false)).setCell ⟨r22, 1, none⟩ (.slice C1 K.length d1)).setCell ⟨r22, 2, none⟩ (.slice C2 V.length d2)).setCell ⟨r22, 3, none⟩ (.slice C3 D.length d3)).setCell ⟨r22, 4, none⟩ (.string high)).setCell ⟨r22, 5, none⟩ (.bool bnd)).setCell ⟨r22, 6, none⟩ (.int .i64 sl)).setCell ⟨r22, 7, none⟩ (.int .u64 ge)) K V D C1 d1 C2 d2 C3 d3) := Lib.hid ⟨(HJ.out.2.mono fun _ _ h => h.elim).trans tw, put8 h22 _ _ _ _ _ _ _ _, HJ.out.1.wr h22 tw⟩
            clear h22 tw HJ
            generalize ((((((((w22.setCell ⟨r22, 0, none⟩ (.bool false)).setCell ⟨r22, 1, none⟩ (.slice C1 K.length d1)).setCell ⟨r22, 2, none⟩ (.slice C2 V.length d2)).setCell ⟨r22, 3, none⟩ (.slice C3 D.length d3)).setCell ⟨r22, 4, none⟩ (.string high)).setCell ⟨r22, 5, none⟩ (.bool bnd)).setCell ⟨r22, 6, none⟩ (.int .i64 sl)).setCell ⟨r22, 7, none⟩ (.int .u64 ge)) = w23 at HS ⊢
            have T23 := Lib.hid (T16.out.then HS.out.1 (fun i hi e => by have := HZR.out.1.2.2; omega))
            have hA := (HC.out _ (T15.out.trans (T5.out.trans T23.out)))
            have hR0 := (HI.out _ (HB.out.1.trans (T15.out.trans (T5.out.trans T23.out)))).k
            have hn : K.length ≤ 100000 := (by have := H300.out.1; have := H300.out.2.1; have := H300.out.2.2; omega)
            go_cut [8] from 140 to 154 (fun s wx => s = .bool false ∧ Hid (Er w23 r22 9 1 (P + 1 + (K.length - P)) (kcs (K.take P) ++ [.string key] ++ kcs (K.drop P)) (fun x => #[.bool false, x, .slice C2 V.length d2, .slice C3 D.length d3, .string high, .bool bnd, .int .i64 sl, .int .u64 ge]) wx))
            case first =>
              refine regK23 (xs := kcs K) (xT := kcs (K.take P)) (xD := kcs (K.drop P)) (by rfl) (by rfl) (by rfl) (by rfl) hA (by rfl) HS.out.2.1 hR0 (by rw [kcs_length, Nat.mul_one]) (row_noneK hR0) HPL.out HCAP.out.1 hn (one_kcs K) (by rw [Nat.mul_one, kcs_take]) (by rw [Nat.mul_one, kcs_drop]) (by rfl) ?_
              intro v140 v141 v142 v143 v144 v145 v146 v147 v148 v149 v150 v151 v152 v153 v154 w25 hE
              have HEE := Lib.hid hE
              clear hE
              simp only [puts]
              go_wp2_with fail
              go_meet
              exact ⟨rfl, HEE⟩
            obtain ⟨rfl, HEE⟩ := hcut
            generalize wc = w25 at HEE ⊢
            clear hA hR0 hn
            obtain ⟨tt, E1, u1, hat, hown⟩ := HEE.out
            have hat : At w25 r22 (.cells #[.bool false, .slice E1 (P + 1 + (K.length - P)) u1, .slice C2 V.length d2, .slice C3 D.length d3, .string high, .bool bnd, .int .i64 sl, .int .u64 ge] 29 (0, 0)) := hat
            have HE1 := Lib.hid (And.intro tt (And.intro hat (And.intro hown (own_grown HS.out.2.2.v tt fun k hk e => own_neG HS.out.2.2.v HS.out.2.1 (by decide) (by rw [← e]; exact hk)))))
            clear tt hat hown HEE
            have T25 := Lib.hid (T23.out.then HE1.out.1 (fun i hi e => by have := HZR.out.1.2.2; omega))
            have hA := (HC.out _ (T15.out.trans (T5.out.trans T25.out)))
            have hR0 := (HI.out _ (HB.out.1.trans (T15.out.trans (T5.out.trans T25.out)))).d
            have hA7 := HB.out.2.2.no (T15.out.trans (T5.out.trans T25.out))
            have hn : D.length ≤ 100000 := (by have := H300.out.1; have := H300.out.2.1; have := H300.out.2.2; omega)
            have hP1 : P + 1 ≤ D.length := by have := HPL.out; have := HDK.out; omega
            go_upto_region 24 with fail
            go_cut [8] from 155 to 171 (fun s wx => s = .bool false ∧ Hid (Er w25 r22 27 2 (P + 1 + 1 + (D.length - (P + 1))) (hcs (D.take (P + 1)) ++ [.int .i64 kid.slot, .int .u64 kid.gen] ++ hcs (D.drop (P + 1))) (fun x => #[.bool false, .slice E1 (P + 1 + (K.length - P)) u1, .slice C2 V.length d2, x, .string high, .bool bnd, .int .i64 sl, .int .u64 ge]) wx))
            case first =>
              refine regH24 (by rfl) hA7 (by rfl) (by rfl) (by rfl) hA (by rfl) HE1.out.2.1 hR0 (hcs_length D) (row_noneH hR0) hP1 HCAP.out.2 hn (one_hcs D) ((hcs_cut D hP1).1).symm ((hcs_cut D hP1).2).symm (by rfl) ?_
              intro v155 v156 v157 v158 v159 v160 v161 v162 v163 v164 v165 v166 v167 v168 v169 v170 v171 w27 hE
              have HEE := Lib.hid hE
              clear hE
              simp only [puts]
              go_wp2_with fail
              go_meet
              exact ⟨rfl, HEE⟩
            obtain ⟨rfl, HEE⟩ := hcut
            generalize wc = w27 at HEE ⊢
            clear hA hR0 hn hA7
            have HP1 := Lib.hid hP1
            clear hP1
            have HRES : Hid (Turn (fun k => k = r22) w21 w27 ∧ Wc w27 r22 false KC V DC high bnd sl ge) := Lib.hid (by
              obtain ⟨tt, F1, f1, hat, hown⟩ := HEE.out
              have hat : At w27 r22 (.cells #[.bool false, .slice E1 (P + 1 + (K.length - P)) u1, .slice C2 V.length d2, .slice F1 (P + 1 + 1 + (D.length - (P + 1))) f1, .string high, .bool bnd, .int .i64 sl, .int .u64 ge] 29 (0, 0)) := hat
              obtain ⟨e1, e2⟩ := HW.out.in_ rfl
              rw [HPI.out.1] at e1 e2
              have l1 : KC.length = (P + 1 + (K.length - P)) := by rw [e1, ins_length K HPL.out]; have := HPL.out; omega
              have l2 : DC.length = (P + 1 + 1 + (D.length - (P + 1))) := by rw [e2, ins_length D HP1.out]; have := HP1.out; omega
              refine ⟨(HS.out.1.trans HE1.out.1).trans tt, E1, u1, C2, d2, F1, f1, ?_, ?_, ?_, ?_⟩
              · rw [l1, l2]
                exact hat
              · rw [e1, ins_kcs]
                exact row_of_own (own_grown HE1.out.2.2.1 tt fun k hk e => own_neG HE1.out.2.2.1 HE1.out.2.1 (by decide) (by rw [← e]; exact hk))
              · exact row_of_own (own_grown HE1.out.2.2.2 tt fun k hk e => own_neG HE1.out.2.2.2 HE1.out.2.1 (by decide) (by rw [← e]; exact hk))
              · rw [e2, ins_hcs]
                exact row_of_own hown)
            go_wp2_with fail
            go_meet
            exact ⟨rfl, HRES⟩
        obtain ⟨rfl, HC2⟩ := hcut
        generalize wc = w28 at HC2 ⊢
        have TT := Lib.hid ((TV.out.mono fun _ _ h => h.elim).trans HC2.out.1)
        replace T16 := Lib.hid (T16.out.then HC2.out.1 (fun i hi e => by have := HZR.out.1.2.2; omega))
        obtain ⟨A, ca, B, cb, hat20, hr20⟩ := HV.out.2.2.1
        obtain ⟨A', ca', B', cb', hat21, hr21⟩ := HV.out.2.2.2
        obtain ⟨X, x1, Y, x2, Z, x3, hat22, hrX, hrY, hrZ⟩ := HC2.out.2
        have W20 := Lib.hid (And.intro (hat20.turn TT.out HZR.out.2.2.1) hr20)
        have W21 := Lib.hid (And.intro (hat21.turn TT.out HZR.out.2.2.2) hr21)
        have W22 := Lib.hid (And.intro hat22 (And.intro hrX (And.intro hrY hrZ)))
        clear hat20 hr20 hat21 hr21 hat22 hrX hrY hrZ HV HC2 TV
        have CA := Lib.hid fun (W : World) (t : Turn No w28 W) => eq_yes ⟨leaf, KA, VA, D, high, bnd, ⟨sl, ge⟩⟩ P1 P2 P3 A B AD p1 p2 p3 ca cb cd W (XA.out.2.k.no (T16.out.trans t)) (XA.out.2.v.no (T16.out.trans t)) (XA.out.2.d.no (T16.out.trans t)) (W20.out.2 W (TT.out.trans (t.mono fun _ _ h => h.elim))).1 (W20.out.2 W (TT.out.trans (t.mono fun _ _ h => h.elim))).2 (HI.out _ (HB.out.1.trans (T15.out.trans (T5.out.trans (T16.out.trans t))))).d (by have := HW.out.lens; have := H300.out.1; have := H300.out.2.1; have := H300.out.2.2; show KA.length ≤ 100000; omega) (by have := HW.out.lens; have := H300.out.1; have := H300.out.2.1; have := H300.out.2.2; show VA.length ≤ 100000; omega) (by have := HW.out.lens; have := H300.out.1; have := H300.out.2.1; have := H300.out.2.2; show D.length ≤ 100000; omega)
        have CB := Lib.hid fun (W : World) (t : Turn No w28 W) => eq_yes ⟨leaf, KB, VB, D, high, bnd, ⟨sl, ge⟩⟩ Q1 Q2 Q3 A' B' AD q1 q2 q3 ca' cb' cd W (XB.out.2.k.no (T16.out.trans t)) (XB.out.2.v.no (T16.out.trans t)) (XB.out.2.d.no (T16.out.trans t)) (W21.out.2 W (TT.out.trans (t.mono fun _ _ h => h.elim))).1 (W21.out.2 W (TT.out.trans (t.mono fun _ _ h => h.elim))).2 (HI.out _ (HB.out.1.trans (T15.out.trans (T5.out.trans (T16.out.trans t))))).d (by have := HW.out.lens; have := H300.out.1; have := H300.out.2.1; have := H300.out.2.2; show KB.length ≤ 100000; omega) (by have := HW.out.lens; have := H300.out.1; have := H300.out.2.1; have := H300.out.2.2; show VB.length ≤ 100000; omega) (by have := HW.out.lens; have := H300.out.1; have := H300.out.2.1; have := H300.out.2.2; show D.length ≤ 100000; omega)
        have CD := Lib.hid fun (W : World) (t : Turn No w28 W) => eq_yes ⟨leaf, KC, V, DC, high, bnd, ⟨sl, ge⟩⟩ R1 R2 R3 X Y Z r1 r2 r3 x1 x2 x3 W (XC.out.2.k.no (T16.out.trans t)) (XC.out.2.v.no (T16.out.trans t)) (XC.out.2.d.no (T16.out.trans t)) (W22.out.2.1.no t) (W22.out.2.2.1.no t) (W22.out.2.2.2.no t) (by have := HW.out.lens; have := H300.out.1; have := H300.out.2.1; have := H300.out.2.2; show KC.length ≤ 100000; omega) (by have := HW.out.lens; have := H300.out.1; have := H300.out.2.1; have := H300.out.2.2; show V.length ≤ 100000; omega) (by have := HW.out.lens; have := H300.out.1; have := H300.out.2.1; have := H300.out.2.2; show DC.length ≤ 100000; omega)
        simp only at CA CB CD
        obtain ⟨e0, e1, e2, e3, e4, e5, e6, e7⟩ := at8 (XA.out.1.no T16.out)
        obtain ⟨f0, f1, f2, f3, f4, f5, f6, f7⟩ := at8 W20.out.1
        go_upto_region 27 with (first | (go_at_call 18; (with_reducible refine (CA.out _ (Turn.refl _ _)).mono ?_); rintro e w29 ⟨rfl, ht⟩; have T29 := Lib.hid ht; clear ht e0 e1 e2 e3 e4 e5 e6 e7 f0 f1 f2 f3 f4 f5 f6 f7; obtain ⟨e0, e1, e2, e3, e4, e5, e6, e7⟩ := at8 (XB.out.1.no (T16.out.trans T29.out)); obtain ⟨f0, f1, f2, f3, f4, f5, f6, f7⟩ := at8 (W21.out.1.no T29.out)) | (go_at_call 18; (with_reducible refine (CB.out _ T29.out).mono ?_); rintro e w30 ⟨rfl, ht⟩; have T30 := Lib.hid (T29.out.trans ht); clear ht e0 e1 e2 e3 e4 e5 e6 e7 f0 f1 f2 f3 f4 f5 f6 f7; obtain ⟨e0, e1, e2, e3, e4, e5, e6, e7⟩ := at8 (XC.out.1.no (T16.out.trans T30.out)); obtain ⟨f0, f1, f2, f3, f4, f5, f6, f7⟩ := at8 (W22.out.1.no T30.out)) | (go_at_call 18; (with_reducible refine (CD.out _ T30.out).mono ?_); rintro e w31 ⟨rfl, ht⟩; have T31 := Lib.hid (T30.out.trans ht); clear ht e0 e1 e2 e3 e4 e5 e6 e7 f0 f1 f2 f3 f4 f5 f6 f7))
        replace T16 := Lib.hid (T16.out.trans T31.out)
        clear T29 T30 T31 CA CB CD W20 W21 W22 TT
        have HSZ : Hid (w5.heap.size ≤ w10.heap.size ∧ w10.heap.size ≤ w12.heap.size ∧ w12.heap.size ≤ w14.heap.size) := HSZ0
        replace XA := Lib.hid (And.intro (XA.out.1.no T16.out) (XA.out.2.no T16.out))
        replace XB := Lib.hid (And.intro (XB.out.1.no T16.out) (XB.out.2.no T16.out))
        replace XC := Lib.hid (And.intro (XC.out.1.no T16.out) (XC.out.2.no T16.out))
        have TS := Lib.hid (T5.out.trans T16.out)
        clear T5 T16
        have C := Lib.hid (spoil_x leaf KA.length VA.length D.length high bnd sl ge P1 P2 P3 p1 p2 p3 w31 XA.out.2.wk XA.out.2.wv XA.out.2.wd (by have := HW.out.lens; have := H300.out.1; have := H300.out.2.1; have := H300.out.2.2; show KA.length ≤ 100000; omega) (by have := HW.out.lens; have := H300.out.1; have := H300.out.2.1; have := H300.out.2.2; show VA.length ≤ 100000; omega) (by have := HW.out.lens; have := H300.out.1; have := H300.out.2.1; have := H300.out.2.2; show D.length ≤ 100000; omega))
        obtain ⟨e0, e1, e2, e3, e4, e5, e6, e7⟩ := at8 XA.out.1
        go_upto_region 28 with (go_at_call 35; (with_reducible refine C.out.mono ?_); rintro e w32 ⟨rfl, ht⟩; have TJ : Hid (Turn (Xs KA.length VA.length D.length P1 P2 P3) w31 w32) := Lib.hid ht; clear ht e0 e1 e2 e3 e4 e5 e6 e7)
        have lA : ∀ k, Xs KA.length VA.length D.length P1 P2 P3 k → k < w12.heap.size := fun k hx => (HXA.out k hx).2
        have YB := Lib.hid (And.intro (XB.out.1.turn TJ.out fun hx => by have := lA _ hx; have := HZB.out; omega) (And.intro (XB.out.2.wk.past XB.out.2.zk TJ.out lA) (And.intro (XB.out.2.wv.past XB.out.2.zv TJ.out lA) (XB.out.2.wd.past XB.out.2.zd TJ.out lA))))
        have lA2 : ∀ k, Xs KA.length VA.length D.length P1 P2 P3 k → k < w14.heap.size := fun k hx => Nat.lt_of_lt_of_le (lA k hx) HSZ.out.2.2
        have YC := Lib.hid (And.intro (XC.out.1.turn TJ.out fun hx => by have := lA2 _ hx; have := HZC.out; omega) (And.intro (XC.out.2.wk.past XC.out.2.zk TJ.out lA2) (And.intro (XC.out.2.wv.past XC.out.2.zv TJ.out lA2) (XC.out.2.wd.past XC.out.2.zd TJ.out lA2))))
        have HZZ := Lib.hid (And.intro XB.out.2.zk (And.intro XC.out.2.zk (And.intro XC.out.2.zv XC.out.2.zd)))
        replace TS := Lib.hid (TS.out.then TJ.out fun i hi hx => by have := (HXA.out i hx).1; have := HSZ.out.1; omega)
        clear lA lA2 TJ C XA XB XC
        have C := Lib.hid (spoil_x leaf KB.length VB.length D.length high bnd sl ge Q1 Q2 Q3 q1 q2 q3 w32 YB.out.2.1 YB.out.2.2.1 YB.out.2.2.2 (by have := HW.out.lens; have := H300.out.1; have := H300.out.2.1; have := H300.out.2.2; show KB.length ≤ 100000; omega) (by have := HW.out.lens; have := H300.out.1; have := H300.out.2.1; have := H300.out.2.2; show VB.length ≤ 100000; omega) (by have := HW.out.lens; have := H300.out.1; have := H300.out.2.1; have := H300.out.2.2; show D.length ≤ 100000; omega))
        obtain ⟨e0, e1, e2, e3, e4, e5, e6, e7⟩ := at8 YB.out.1
        go_upto_region 29 with (go_at_call 35; (with_reducible refine C.out.mono ?_); rintro e w33 ⟨rfl, ht⟩; have TJ : Hid (Turn (Xs KB.length VB.length D.length Q1 Q2 Q3) w32 w33) := Lib.hid ht; clear ht e0 e1 e2 e3 e4 e5 e6 e7)
        have lB : ∀ k, Xs KB.length VB.length D.length Q1 Q2 Q3 k → k < w14.heap.size := fun k hx => (HXB.out k hx).2
        replace YC := Lib.hid (And.intro (YC.out.1.turn TJ.out fun hx => by have := lB _ hx; have := HZC.out; omega) (And.intro (YC.out.2.1.past HZZ.out.2.1 TJ.out lB) (And.intro (YC.out.2.2.1.past HZZ.out.2.2.1 TJ.out lB) (YC.out.2.2.2.past HZZ.out.2.2.2 TJ.out lB))))
        replace TS := Lib.hid (TS.out.then TJ.out fun i hi hx => by have := (HXB.out i hx).1; have := HSZ.out.1; have := HSZ.out.2.1; omega)
        clear lB TJ C YB
        have C := Lib.hid (spoil_x leaf KC.length V.length DC.length high bnd sl ge R1 R2 R3 r1 r2 r3 w33 YC.out.2.1 YC.out.2.2.1 YC.out.2.2.2 (by have := HW.out.lens; have := H300.out.1; have := H300.out.2.1; have := H300.out.2.2; show KC.length ≤ 100000; omega) (by have := HW.out.lens; have := H300.out.1; have := H300.out.2.1; have := H300.out.2.2; show V.length ≤ 100000; omega) (by have := HW.out.lens; have := H300.out.1; have := H300.out.2.1; have := H300.out.2.2; show DC.length ≤ 100000; omega))
        obtain ⟨e0, e1, e2, e3, e4, e5, e6, e7⟩ := at8 YC.out.1
        go_upto_region 30 with (go_at_call 35; (with_reducible refine C.out.mono ?_); rintro e w34 ⟨rfl, ht⟩; have TJ : Hid (Turn (Xs KC.length V.length DC.length R1 R2 R3) w33 w34) := Lib.hid ht; clear ht e0 e1 e2 e3 e4 e5 e6 e7)
        replace TS := Lib.hid (TS.out.then TJ.out fun i hi hx => by have := (HXC.out i hx).1; have := HSZ.out.1; have := HSZ.out.2.1; have := HSZ.out.2.2; omega)
        clear TJ C YC
        have C := Lib.hid (eq_yes ⟨leaf, K, V, D, high, bnd, ⟨sl, ge⟩⟩ O1 O2 O3 AK AV AD o1 o2 o3 ck cv cd w34 (IO.out.k.no TS.out) (IO.out.v.no TS.out) (IO.out.d.no TS.out) (HI.out _ (HB.out.1.trans (T15.out.trans TS.out))).k (HI.out _ (HB.out.1.trans (T15.out.trans TS.out))).v (HI.out _ (HB.out.1.trans (T15.out.trans TS.out))).d (by have := HW.out.lens; have := H300.out.1; have := H300.out.2.1; have := H300.out.2.2; show K.length ≤ 100000; omega) (by have := HW.out.lens; have := H300.out.1; have := H300.out.2.1; have := H300.out.2.2; show V.length ≤ 100000; omega) (by have := HW.out.lens; have := H300.out.1; have := H300.out.2.1; have := H300.out.2.2; show D.length ≤ 100000; omega))
        simp only at C
        obtain ⟨e0, e1, e2, e3, e4, e5, e6, e7⟩ := at8 (XO.out.no TS.out)
        obtain ⟨c0, c1, c2, c3, c4, c5, c6, c7⟩ := at8 (HC.out _ (T15.out.trans TS.out))
        go_wp2_with (go_at_call 18; (with_reducible refine C.out.mono ?_); rintro e w35 ⟨rfl, ht⟩; have TJ := Lib.hid ht; clear ht e0 e1 e2 e3 e4 e5 e6 e7 c0 c1 c2 c3 c4 c5 c6 c7)
        go_ret
        exact ⟨rfl, HB.out.1.trans (T15.out.trans (TS.out.trans TJ.out))⟩
end Go.Proofs.Ytengbkopihiiaaa
