/-
  The law BlnodeHalves.
-/
import Derived.Test.YtengbkopihiiaaaHq
namespace Go.Proofs.Ytengbkopihiiaaa
open Go.RowKit Go.Lib
set_option linter.unusedVariables false
set_option maxRecDepth 20000
set_option linter.unusedSimpArgs false

theorem row_below {w0 w w2 : World} {A : Option Addr} {xs : List Value} {r : Nat} (h : Row w0 A xs) (hr : w0.heap.size ≤ r) (t : Turn No w0 w) (tw : Turn (fun k => k = r) w w2) : Row w2 A xs := fun j u hj => by
  obtain ⟨b, o, hA, hb, hc⟩ := (h.no t) j u hj
  obtain ⟨b', o', hA', hb', _⟩ := h j u hj
  rw [hA] at hA'
  injection hA' with hA'
  injection hA' with e1 e2
  subst e1
  refine ⟨b, o, hA, Nat.lt_of_lt_of_le hb tw.size, ?_⟩
  rw [World.cell?_of_block (w := w) (tw.block b hb (by omega))]
  exact hc
theorem in_below {w0 w w2 : World} {n : Nd} {AK AV AD : Option Addr} {r : Nat} (h : In w0 n AK AV AD) (t : Turn No w0 w) (hr : w0.heap.size ≤ r) (tw : Turn (fun k => k = r) w w2) : In w2 n AK AV AD :=
  ⟨row_below h.k hr t tw, row_below h.v hr t tw, row_below h.d hr t tw, h.fk, h.fv, h.fh, h.lk, h.lv, h.ld⟩
set_option maxRecDepth 100000 in
set_option maxHeartbeats 64000000 in
theorem halves_any (n : Nd) (AK AV AD : Option Addr) (ck cv cd : Nat) (key other val : ByteArray) (nxt : Hn) (w : World) (hin : InN w n AK AV AD) (fk : Fit key) (fo : Fit other) (fv : Fit val) :
    Calls Try.prog 7 #[.agg #[.bool n.leaf, .slice AK n.keys.length ck, .slice AV n.vals.length cv, .slice AD n.kids.length cd, .string n.high, .bool n.bnd, .int .i64 n.nx.slot, .int .u64 n.nx.gen], .string key, .string other, .string val, .agg #[.int .i64 nxt.slot, .int .u64 nxt.gen]] w fun e w' => e = .returned (.bool true) ∧ Turn No w w' := by
  obtain ⟨leaf, K, V, D, high, bnd, ⟨sl, ge⟩⟩ := n
  have CA := Lib.hid fun (W : World) => awake_c W
  have HIn := Lib.hid hin
  have CG := Lib.hid fun (W : World) (t : Turn No w W) => great_any leaf K V.length D.length high bnd sl ge AK AV AD ck cv cd W (HIn.out.k.no t) HIn.out.fk HIn.out.fh HIn.out.lk HIn.out.lv HIn.out.ld
  have HS : Hid (SmallN K V.length D.length high → K.length ≤ 300 ∧ V.length ≤ 300 ∧ D.length ≤ 301 ∧ ∀ W, Turn No w W → In W ⟨leaf, K, V, D, high, bnd, ⟨sl, ge⟩⟩ AK AV AD) := Lib.hid fun hs => ⟨hs.1, hs.2.1, hs.2.2.1, fun W t => ⟨HIn.out.k.no t, HIn.out.v.no t, HIn.out.d.no t, HIn.out.fk, HIn.out.fv, HIn.out.fh, Nat.le_trans hs.1 (by decide), Nat.le_trans hs.2.1 (by decide), Nat.le_trans hs.2.2.1 (by decide)⟩⟩
  have t1 : Turn No w (w.alloc (.cells #[.bool leaf, .slice AK K.length ck, .slice AV V.length cv, .slice AD D.length cd, .string high, .bool bnd, .int .i64 sl, .int .u64 ge] 29)) := (Turn.refl _ _).alloc _
  have t2 : Turn No (w.alloc (.cells #[.bool leaf, .slice AK K.length ck, .slice AV V.length cv, .slice AD D.length cd, .string high, .bool bnd, .int .i64 sl, .int .u64 ge] 29)) ((w.alloc (.cells #[.bool leaf, .slice AK K.length ck, .slice AV V.length cv, .slice AD D.length cd, .string high, .bool bnd, .int .i64 sl, .int .u64 ge] 29)).alloc (.cells #[.int .i64 nxt.slot, .int .u64 nxt.gen] 27)) := (Turn.refl _ _).alloc _
  have a1 := (At.new w (.cells #[.bool leaf, .slice AK K.length ck, .slice AV V.length cv, .slice AD D.length cd, .string high, .bool bnd, .int .i64 sl, .int .u64 ge] 29)).no t2
  have a2 := At.new (w.alloc (.cells #[.bool leaf, .slice AK K.length ck, .slice AV V.length cv, .slice AD D.length cd, .string high, .bool bnd, .int .i64 sl, .int .u64 ge] 29)) (.cells #[.int .i64 nxt.slot, .int .u64 nxt.gen] 27)
  rw [World.size_alloc] at a2
  have HB : Hid (Turn No w ((w.alloc (.cells #[.bool leaf, .slice AK K.length ck, .slice AV V.length cv, .slice AD D.length cd, .string high, .bool bnd, .int .i64 sl, .int .u64 ge] 29)).alloc (.cells #[.int .i64 nxt.slot, .int .u64 nxt.gen] 27)) ∧ At ((w.alloc (.cells #[.bool leaf, .slice AK K.length ck, .slice AV V.length cv, .slice AD D.length cd, .string high, .bool bnd, .int .i64 sl, .int .u64 ge] 29)).alloc (.cells #[.int .i64 nxt.slot, .int .u64 nxt.gen] 27)) w.heap.size (.cells #[.bool leaf, .slice AK K.length ck, .slice AV V.length cv, .slice AD D.length cd, .string high, .bool bnd, .int .i64 sl, .int .u64 ge] 29 (0, 0)) ∧ At ((w.alloc (.cells #[.bool leaf, .slice AK K.length ck, .slice AV V.length cv, .slice AD D.length cd, .string high, .bool bnd, .int .i64 sl, .int .u64 ge] 29)).alloc (.cells #[.int .i64 nxt.slot, .int .u64 nxt.gen] 27)) (w.heap.size + 1) (.cells #[.int .i64 nxt.slot, .int .u64 nxt.gen] 27 (0, 0))) := Lib.hid ⟨t1.trans t2, a1, a2⟩
  clear t1 t2 a1 a2
  have hm1 := HIn.out.lk
  have hm2 := HIn.out.ld
  simp only at hm1 hm2 ⊢
  unfold maxLen at hm1 hm2
  have HF := Lib.hid (And.intro fk (And.intro fo fv))
  unfold Fit at fk fo fv
  clear hin
  go_enter Try.func7, Try.ntmps7
  go_upto_region 1 with fail
  generalize ((w.alloc (.cells #[.bool leaf, .slice AK K.length ck, .slice AV V.length cv, .slice AD D.length cd, .string high, .bool bnd, .int .i64 sl, .int .u64 ge] 29)).alloc (.cells #[.int .i64 nxt.slot, .int .u64 nxt.gen] 27)) = w1 at HB ⊢
  generalize w.heap.size = g at HB ⊢
  have HC : Hid (∀ W, Turn No w1 W → At W g (.cells #[.bool leaf, .slice AK K.length ck, .slice AV V.length cv, .slice AD D.length cd, .string high, .bool bnd, .int .i64 sl, .int .u64 ge] 29 (0, 0))) := Lib.hid fun W t => HB.out.2.1.no t
  go_wp2_with fail
  (with_reducible refine (CA.out _).mono ?_)
  rintro e w2 ⟨rfl, ht⟩
  have T2 := Lib.hid ht
  clear ht
  go_upto_region 3 with fail
  obtain ⟨c0, c1, c2, c3, c4, c5, c6, c7⟩ := at8 (HC.out w2 T2.out)
  go_wp2_with fail
  (with_reducible refine (CG.out _ (HB.out.1.trans T2.out)).mono ?_)
  rintro e w3 ⟨bb, rfl, hb, ht⟩
  have T3 := Lib.hid (T2.out.trans ht)
  have HBB := Lib.hid hb
  clear ht hb c0 c1 c2 c3 c4 c5 c6 c7 T2 CG CA
  cases bb with
  | true =>
    go_wp2_with fail
    go_ret
    exact ⟨rfl, HB.out.1.trans T3.out⟩
  | false =>
    by_cases hl0 : 20000 < key.size
    · have q0 : (20000 : Int) < (key.size : Int) := by omega
      go_wp2_with fail
      go_ret
      exact ⟨rfl, HB.out.1.trans T3.out⟩
    · have q0 : ¬ (20000 : Int) < (key.size : Int) := by omega
      by_cases hl1 : 20000 < other.size
      · have q1 : (20000 : Int) < (other.size : Int) := by omega
        go_wp2_with fail
        go_ret
        exact ⟨rfl, HB.out.1.trans T3.out⟩
      · have q1 : ¬ (20000 : Int) < (other.size : Int) := by omega
        by_cases hl2 : 20000 < val.size
        · have q2 : (20000 : Int) < (val.size : Int) := by omega
          go_wp2_with fail
          go_ret
          exact ⟨rfl, HB.out.1.trans T3.out⟩
        · have q2 : ¬ (20000 : Int) < (val.size : Int) := by omega
          obtain ⟨k300, v300, d300, hI⟩ := HS.out (HBB.out rfl)
          have HI := Lib.hid hI
          have H300 := Lib.hid (And.intro k300 (And.intro v300 d300))
          clear HS HBB hI k300 v300 d300
          obtain ⟨c0, c1, c2, c3, c4, c5, c6, c7⟩ := at8 (HC.out w3 T3.out)
          go_upto_region 5 with fail
          have T := Lib.hid T3.out
          clear T3
          by_cases hr : NdRight ⟨leaf, K, V, D, high, bnd, ⟨sl, ge⟩⟩
          · skip
            have HR := Lib.hid hr
            have C := Lib.hid (right_yes ⟨leaf, K, V, D, high, bnd, ⟨sl, ge⟩⟩ AK AV AD ck cv cd w3 (HI.out _ (HB.out.1.trans T.out)) hr)
            simp only at C
            have HLR : Hid (LeafR ⟨leaf, K, V, D, high, bnd, ⟨sl, ge⟩⟩ key ↔ leaf = true ∧ (bnd = true → kl key high)) := Lib.hid ⟨fun h => ⟨h.2.1, h.2.2⟩, fun h => ⟨hr, h.1, h.2⟩⟩
            clear hr
            go_upto_region 9 with (go_at_call 25; (with_reducible refine C.out.mono ?_); rintro e w4 ⟨rfl, ht⟩; have TJ := Lib.hid ht; clear ht c0 c1 c2 c3 c4 c5 c6 c7)
            replace T := Lib.hid (T.out.trans TJ.out)
            clear TJ C
            have C := Lib.hid (put_g ck cv cd (key := key) (val := val) (HI.out _ (HB.out.1.trans T.out)) HR.out (by have := H300.out.1; omega) (by have := H300.out.2.1; omega) HF.out.1 HF.out.2.2)
            obtain ⟨c0, c1, c2, c3, c4, c5, c6, c7⟩ := at8 (HC.out _ T.out)
            go_upto_region 10 with (go_at_call 12; (with_reducible refine C.out.mono ?_); rintro e w5 ⟨Ka, Va, PA, pa, QA, qa, SA, sa, olda, had, rfl, hin2, hrt, hy, hn, ht⟩; have HJ := Lib.hid (And.intro hin2 ht); have FA := Lib.hid (And.intro hrt (And.intro hy hn)); clear hin2 hrt hy hn ht c0 c1 c2 c3 c4 c5 c6 c7)
            clear C
            have X1 := Lib.hid (And.intro (At.new w5 (.cells #[.bool leaf, .slice PA Ka.length pa, .slice QA Va.length qa, .slice SA D.length sa, .string high, .bool bnd, .int .i64 sl, .int .u64 ge] 29)) (HJ.out.1.no ((Turn.refl No w5).alloc (.cells #[.bool leaf, .slice PA Ka.length pa, .slice QA Va.length qa, .slice SA D.length sa, .string high, .bool bnd, .int .i64 sl, .int .u64 ge] 29))))
            have TJ := Lib.hid (HJ.out.2.alloc (.cells #[.bool leaf, .slice PA Ka.length pa, .slice QA Va.length qa, .slice SA D.length sa, .string high, .bool bnd, .int .i64 sl, .int .u64 ge] 29))
            clear HJ
            generalize (w5.alloc (.cells #[.bool leaf, .slice PA Ka.length pa, .slice QA Va.length qa, .slice SA D.length sa, .string high, .bool bnd, .int .i64 sl, .int .u64 ge] 29)) = w6 at X1 TJ ⊢
            obtain ⟨r17, hr⟩ : ∃ q, w5.heap.size = q := ⟨_, rfl⟩
            rw [hr] at X1
            rw [hr]
            clear hr
            replace T := Lib.hid (T.out.trans TJ.out)
            clear TJ
            have C := Lib.hid (del_g ck cv cd (key := key) (HI.out _ (HB.out.1.trans T.out)) HR.out HF.out.1)
            obtain ⟨c0, c1, c2, c3, c4, c5, c6, c7⟩ := at8 (HC.out _ T.out)
            go_upto_region 11 with (go_at_call 13; (with_reducible refine C.out.mono ?_); rintro e w7 ⟨Kb, Vb, PB, pb, QB, qb, SB, sb, oldb, there, rfl, hin2, hrt, hy, hn, ht⟩; have HJ := Lib.hid (And.intro hin2 ht); have FB := Lib.hid (And.intro hrt (And.intro hy hn)); clear hin2 hrt hy hn ht c0 c1 c2 c3 c4 c5 c6 c7)
            clear C
            obtain rfl : had = there := by
              by_cases hl : LeafR ⟨leaf, K, V, D, high, bnd, ⟨sl, ge⟩⟩ key
              · rw [(FA.out.2.1 hl).2, (FB.out.2.1 hl).2]
              · rw [(FA.out.2.2 hl).2.2, (FB.out.2.2 hl).2.2]
            have X2 := Lib.hid (And.intro (At.new w7 (.cells #[.bool leaf, .slice PB Kb.length pb, .slice QB Vb.length qb, .slice SB D.length sb, .string high, .bool bnd, .int .i64 sl, .int .u64 ge] 29)) (HJ.out.1.no ((Turn.refl No w7).alloc (.cells #[.bool leaf, .slice PB Kb.length pb, .slice QB Vb.length qb, .slice SB D.length sb, .string high, .bool bnd, .int .i64 sl, .int .u64 ge] 29))))
            have TJ := Lib.hid (HJ.out.2.alloc (.cells #[.bool leaf, .slice PB Kb.length pb, .slice QB Vb.length qb, .slice SB D.length sb, .string high, .bool bnd, .int .i64 sl, .int .u64 ge] 29))
            clear HJ
            generalize (w7.alloc (.cells #[.bool leaf, .slice PB Kb.length pb, .slice QB Vb.length qb, .slice SB D.length sb, .string high, .bool bnd, .int .i64 sl, .int .u64 ge] 29)) = w8 at X2 TJ ⊢
            obtain ⟨r20, hr⟩ : ∃ q, w7.heap.size = q := ⟨_, rfl⟩
            rw [hr] at X2
            rw [hr]
            clear hr
            replace T := Lib.hid (T.out.trans TJ.out)
            replace X1 := Lib.hid (And.intro (X1.out.1.no TJ.out) (X1.out.2.no TJ.out))
            clear TJ
            have C := Lib.hid (add_g ck cv cd (key := key) (kid := nxt) (HI.out _ (HB.out.1.trans T.out)) HR.out (by have := H300.out.1; omega) (by have := H300.out.2.2; omega) HF.out.1)
            obtain ⟨c0, c1, c2, c3, c4, c5, c6, c7⟩ := at8 (HC.out _ T.out)
            obtain ⟨k0, k1⟩ := at2 (HB.out.2.2.no T.out)
            go_upto_region 12 with (go_at_call 16; (with_reducible refine C.out.mono ?_); rintro e w9 ⟨Kc, Dc, PC, pc, QC, qc, SC, sc, rfl, hin2, hrt, ht⟩; have HJ := Lib.hid (And.intro hin2 ht); have FC := Lib.hid hrt; clear hin2 hrt ht c0 c1 c2 c3 c4 c5 c6 c7 k0 k1)
            clear C
            have X3 := Lib.hid (And.intro (At.new w9 (.cells #[.bool leaf, .slice PC Kc.length pc, .slice QC V.length qc, .slice SC Dc.length sc, .string high, .bool bnd, .int .i64 sl, .int .u64 ge] 29)) (HJ.out.1.no ((Turn.refl No w9).alloc (.cells #[.bool leaf, .slice PC Kc.length pc, .slice QC V.length qc, .slice SC Dc.length sc, .string high, .bool bnd, .int .i64 sl, .int .u64 ge] 29))))
            have TJ := Lib.hid (HJ.out.2.alloc (.cells #[.bool leaf, .slice PC Kc.length pc, .slice QC V.length qc, .slice SC Dc.length sc, .string high, .bool bnd, .int .i64 sl, .int .u64 ge] 29))
            clear HJ
            generalize (w9.alloc (.cells #[.bool leaf, .slice PC Kc.length pc, .slice QC V.length qc, .slice SC Dc.length sc, .string high, .bool bnd, .int .i64 sl, .int .u64 ge] 29)) = w10 at X3 TJ ⊢
            obtain ⟨r23, hr⟩ : ∃ q, w9.heap.size = q := ⟨_, rfl⟩
            rw [hr] at X3
            rw [hr]
            clear hr
            replace T := Lib.hid (T.out.trans TJ.out)
            replace X1 := Lib.hid (And.intro (X1.out.1.no TJ.out) (X1.out.2.no TJ.out))
            replace X2 := Lib.hid (And.intro (X2.out.1.no TJ.out) (X2.out.2.no TJ.out))
            clear TJ
            have CA := Lib.hid (right_yes ⟨leaf, Ka, Va, D, high, bnd, ⟨sl, ge⟩⟩ PA QA SA pa qa sa w10 X1.out.2 FA.out.1)
            have CB := Lib.hid fun (W : World) (t : Turn No w10 W) => right_yes ⟨leaf, Kb, Vb, D, high, bnd, ⟨sl, ge⟩⟩ PB QB SB pb qb sb W (X2.out.2.no t) FB.out.1
            have CC := Lib.hid fun (W : World) (t : Turn No w10 W) => right_yes ⟨leaf, Kc, V, Dc, high, bnd, ⟨sl, ge⟩⟩ PC QC SC pc qc sc W (X3.out.2.no t) FC.out
            simp only at CA CB CC
            obtain ⟨c0, c1, c2, c3, c4, c5, c6, c7⟩ := at8 X1.out.1
            go_upto_region 14 with (first | (go_at_call 25; (with_reducible refine CA.out.mono ?_); rintro e w11 ⟨rfl, ht⟩; have T11 := Lib.hid ht; clear ht c0 c1 c2 c3 c4 c5 c6 c7; obtain ⟨c0, c1, c2, c3, c4, c5, c6, c7⟩ := at8 (X2.out.1.no T11.out)) | (go_at_call 25; (with_reducible refine (CB.out _ T11.out).mono ?_); rintro e w12 ⟨rfl, ht⟩; have T12 := Lib.hid (T11.out.trans ht); clear ht c0 c1 c2 c3 c4 c5 c6 c7; obtain ⟨c0, c1, c2, c3, c4, c5, c6, c7⟩ := at8 (X3.out.1.no T12.out)) | (go_at_call 25; (with_reducible refine (CC.out _ T12.out).mono ?_); rintro e w13 ⟨rfl, ht⟩; have T13 := Lib.hid (T12.out.trans ht); clear ht c0 c1 c2 c3 c4 c5 c6 c7))
            replace T := Lib.hid (T.out.trans T13.out)
            replace X1 := Lib.hid (And.intro (X1.out.1.no T13.out) (X1.out.2.no T13.out))
            replace X2 := Lib.hid (And.intro (X2.out.1.no T13.out) (X2.out.2.no T13.out))
            clear CA CB CC T11 T12 T13 X3 FC
            obtain ⟨u, is, hu⟩ := valT_some K V other
            have HU := Lib.hid hu
            have cv0 := value_c leaf K V D.length high bnd sl ge AK AV AD ck cv cd other w13 (HI.out _ (HB.out.1.trans T.out)).k (HI.out _ (HB.out.1.trans T.out)).v (HI.out _ (HB.out.1.trans T.out)).fk HF.out.2.1 (Nat.le_trans H300.out.1 (by decide)) (Nat.le_trans H300.out.2.1 (by decide))
            rw [hu] at cv0
            have C := Lib.hid cv0
            clear hu cv0
            obtain ⟨c0, c1, c2, c3, c4, c5, c6, c7⟩ := at8 (HC.out _ T.out)
            go_upto_region 15 with (go_at_call 36; (with_reducible refine C.out.mono ?_); rintro e w14 ⟨rfl, ht⟩; have TJ := Lib.hid ht; clear ht c0 c1 c2 c3 c4 c5 c6 c7)
            replace T := Lib.hid (T.out.trans TJ.out)
            replace X1 := Lib.hid (And.intro (X1.out.1.no TJ.out) (X1.out.2.no TJ.out))
            replace X2 := Lib.hid (And.intro (X2.out.1.no TJ.out) (X2.out.2.no TJ.out))
            clear TJ C
            have C := Lib.hid (covers_c ⟨leaf, K, V, D, high, bnd, ⟨sl, ge⟩⟩ AK AV AD ck cv cd key w14 (HI.out _ (HB.out.1.trans T.out)) HF.out.1)
            simp only at C
            obtain ⟨c0, c1, c2, c3, c4, c5, c6, c7⟩ := at8 (HC.out _ T.out)
            go_cut [142] from 136 to 142 (fun s wx => ∃ bb : Bool, s = .bool bb ∧ Hid ((bb = true ↔ LeafR ⟨leaf, K, V, D, high, bnd, ⟨sl, ge⟩⟩ key) ∧ Turn No w14 wx))
            case first =>
              cases leaf with
              | false =>
                go_wp2_with fail
                go_meet
                exact ⟨false, rfl, Lib.hid ⟨⟨fun h => (by cases h), fun h => by cases h.2.1⟩, Turn.refl _ _⟩⟩
              | true =>
                go_wp2_with (go_at_call 26; (with_reducible refine C.out.mono ?_); rintro e w15 ⟨bb, rfl, hb, ht⟩; have TJ := Lib.hid (And.intro hb ht); clear hb ht)
                go_meet
                exact ⟨bb, rfl, Lib.hid ⟨⟨fun h => HLR.out.2 ⟨by first | rfl | trivial, TJ.out.1.1 h⟩, fun h => TJ.out.1.2 h.2.2⟩, TJ.out.2⟩⟩
            case rest =>
              obtain ⟨bb, rfl, HBB⟩ := hcut
              generalize wc = w15 at HBB ⊢
              clear C c0 c1 c2 c3 c4 c5 c6 c7
              have TJ := Lib.hid HBB.out.2
              replace T := Lib.hid (T.out.trans TJ.out)
              replace X1 := Lib.hid (And.intro (X1.out.1.no TJ.out) (X1.out.2.no TJ.out))
              replace X2 := Lib.hid (And.intro (X2.out.1.no TJ.out) (X2.out.2.no TJ.out))
              clear TJ
              go_upto_if 142 with fail
              go_cut [26, 27, 28, 29, 30, 31, 32, 33] from 143 to 225 (fun s1 s2 s3 s4 s5 s6 s7 s8 wx => Hid (Turn No w15 wx))
              case first =>
                cases bb with
                | false =>
                  go_wp2_with fail
                  go_meet
                  exact Lib.hid (Turn.refl _ _)
                | true =>
                  have HL : Hid (LeafR ⟨leaf, K, V, D, high, bnd, ⟨sl, ge⟩⟩ key) := Lib.hid (by first | exact HBB.out.1.1 rfl | exact HBB.out.1.1 trivial)
                  have hlf : leaf = true := HL.out.2.1
                  subst hlf
                  have hvl : V.length = K.length := (HR.out.2.2.2.1 rfl).1
                  have hLf := Lf.of hvl
                  have hAs := zip_asc hvl HR.out.1
                  have FA1 := FA.out.2.1 HL.out
                  have FB1 := FB.out.2.1 HL.out
                  have hAa : Asc (putL (zipP K V) key val) := hAs.put key val
                  have hAb : Asc (delL (zipP K V) key) := hAs.del key
                  have v1 : valT Ka Va key = .tuple #[.string val, .bool true] := by rw [valT_lf FA1.1 hAa, get_put, if_pos rfl]; rfl
                  have v2 : valT Kb Vb key = .tuple #[.string ⟨#[]⟩, .bool false] := by rw [valT_lf FB1.1 hAb, get_del, if_pos rfl]; rfl
                  have v0 := HU.out
                  rw [valT_lf hLf hAs] at v0
                  have v3 : Hid (other ≠ key → valT Ka Va other = .tuple #[.string u, .bool is] ∧ valT Kb Vb other = .tuple #[.string u, .bool is]) := Lib.hid fun hne => by
                    rw [valT_lf FA1.1 hAa, valT_lf FB1.1 hAb, get_put, get_del, if_neg hne, if_neg hne, v0]
                    exact ⟨rfl, rfl⟩
                  have hln := put_len hAs key val
                  rw [← FA1.1.len.1, ← FA1.2] at hln
                  rw [← hLf.len.1] at hln
                  have HLN := Lib.hid hln
                  have hf1 := X1.out.2
                  have hf2 := X2.out.2
                  have cv1 := value_c true Ka Va D.length high bnd sl ge PA QA SA pa qa sa key w15 hf1.k hf1.v hf1.fk HF.out.1 (Nat.le_trans hf1.lk (by decide)) (Nat.le_trans hf1.lv (by decide))
                  rw [v1] at cv1
                  have CV1 := Lib.hid cv1
                  have CV2 : Hid (∀ W, Turn No w15 W → Calls Try.prog 36 #[.agg #[.bool true, .slice PB Kb.length pb, .slice QB Vb.length qb, .slice SB D.length sb, .string high, .bool bnd, .int .i64 sl, .int .u64 ge], .string key] W fun e w' => e = .returned (.tuple #[.string ⟨#[]⟩, .bool false]) ∧ Turn No W w') := Lib.hid fun W t => by
                    have c := value_c true Kb Vb D.length high bnd sl ge PB QB SB pb qb sb key W (hf2.k.no t) (hf2.v.no t) hf2.fk HF.out.1 (Nat.le_trans hf2.lk (by decide)) (Nat.le_trans hf2.lv (by decide))
                    rw [v2] at c
                    exact c
                  have CV3 := Lib.hid fun (W : World) (t : Turn No w15 W) => value_c true Ka Va D.length high bnd sl ge PA QA SA pa qa sa other W (hf1.k.no t) (hf1.v.no t) hf1.fk HF.out.2.1 (Nat.le_trans hf1.lk (by decide)) (Nat.le_trans hf1.lv (by decide))
                  have CV4 := Lib.hid fun (W : World) (t : Turn No w15 W) => value_c true Kb Vb D.length high bnd sl ge PB QB SB pb qb sb other W (hf2.k.no t) (hf2.v.no t) hf2.fk HF.out.2.1 (Nat.le_trans hf2.lk (by decide)) (Nat.le_trans hf2.lv (by decide))
                  clear hvl hLf hAs FA1 FB1 hAa hAb v1 v2 v0 hln hf1 hf2 cv1
                  obtain ⟨c0, c1, c2, c3, c4, c5, c6, c7⟩ := at8 X1.out.1
                  go_upto_region 17 with (go_at_call 36; (with_reducible refine CV1.out.mono ?_); rintro e w17 ⟨rfl, ht⟩; have T17 := Lib.hid ht; clear ht c0 c1 c2 c3 c4 c5 c6 c7; obtain ⟨c0, c1, c2, c3, c4, c5, c6, c7⟩ := at8 (X2.out.1.no T17.out))
                  go_upto_region 18 with (go_at_call 36; (with_reducible refine (CV2.out _ T17.out).mono ?_); rintro e w18 ⟨rfl, ht⟩; have T18 := Lib.hid (T17.out.trans ht); clear ht c0 c1 c2 c3 c4 c5 c6 c7)
                  have a1 := (X1.out.1.no T18.out).cell 1
                  have n1 := (HC.out _ (T.out.trans T18.out)).cell 1
                  simp at a1 n1
                  clear CV1 CV2 T17
                  go_cut [190] from 155 to 190 (fun s wx => s = .bool false ∧ wx = w18)
                  case first =>
                    have hw : IntKind.i64.wrap ((K.length : Int) + 1) = (K.length : Int) + 1 := IntWalk.i64_in _ ⟨by omega, by have := H300.out.1; omega⟩
                    cases had with
                    | true =>
                      have hl1 : (Ka.length : Int) = (K.length : Int) := by
                        have := HLN.out
                        rw [if_pos rfl] at this
                        omega
                      have hk2 : ((Ka.length : Int) == (K.length : Int)) = true := by rw [hl1]; simp
                      have hk3 : ((Ka.length : Int) != (K.length : Int)) = false := by rw [hl1]; simp
                      clear hl1
                      go_wp2_with fail
                      go_meet
                      exact ⟨rfl, by first | rfl | trivial⟩
                    | false =>
                      have hl1 : (Ka.length : Int) = (K.length : Int) + 1 := by
                        have := HLN.out
                        rw [if_neg (by decide)] at this
                        omega
                      have hk2 : ((Ka.length : Int) == (K.length : Int) + 1) = true := by rw [hl1]; simp
                      have hk3 : ((Ka.length : Int) != (K.length : Int) + 1) = false := by rw [hl1]; simp
                      clear hl1
                      go_wp2_with fail
                      go_meet
                      exact ⟨rfl, by first | rfl | trivial⟩
                  case rest =>
                    obtain ⟨rfl, hwc⟩ := hcut
                    subst hwc
                    generalize wc = w18 at T18 ⊢
                    clear a1 n1
                    go_upto_region 20 with fail
                    by_cases hok : other = key
                    · obtain ⟨p1, p2, hp⟩ := valT_some Ka Va other
                      obtain ⟨p3, p4, hp2⟩ := valT_some Kb Vb other
                      have cv3 := CV3.out _ T18.out
                      rw [hp] at cv3
                      have CV5 := Lib.hid cv3
                      have CV6 : Hid (∀ W, Turn No w15 W → Calls Try.prog 36 #[.agg #[.bool true, .slice PB Kb.length pb, .slice QB Vb.length qb, .slice SB D.length sb, .string high, .bool bnd, .int .i64 sl, .int .u64 ge], .string other] W fun e w' => e = .returned (.tuple #[.string p3, .bool p4]) ∧ Turn No W w') := Lib.hid fun W t => by
                        have c := CV4.out W t
                        rw [hp2] at c
                        exact c
                      have qe : (other.toList == key.toList) = true := by rw [bytes_beq, decide_eq_true hok]
                      clear hok hp hp2 cv3 CV3 CV4
                      obtain ⟨c0, c1, c2, c3, c4, c5, c6, c7⟩ := at8 (X1.out.1.no T18.out)
                      go_upto_region 21 with (go_at_call 36; (with_reducible refine CV5.out.mono ?_); rintro e w19 ⟨rfl, ht⟩; have T19 := Lib.hid (T18.out.trans ht); clear ht c0 c1 c2 c3 c4 c5 c6 c7; obtain ⟨c0, c1, c2, c3, c4, c5, c6, c7⟩ := at8 (X2.out.1.no T19.out))
                      go_wp2_with (go_at_call 36; (with_reducible refine (CV6.out _ T19.out).mono ?_); rintro e w20 ⟨rfl, ht⟩; have T20 := Lib.hid (T19.out.trans ht); clear ht c0 c1 c2 c3 c4 c5 c6 c7)
                      go_meet
                      exact T20
                    · have cv3 := CV3.out _ T18.out
                      rw [(v3.out hok).1] at cv3
                      have CV5 := Lib.hid cv3
                      have CV6 : Hid (∀ W, Turn No w15 W → Calls Try.prog 36 #[.agg #[.bool true, .slice PB Kb.length pb, .slice QB Vb.length qb, .slice SB D.length sb, .string high, .bool bnd, .int .i64 sl, .int .u64 ge], .string other] W fun e w' => e = .returned (.tuple #[.string u, .bool is]) ∧ Turn No W w') := Lib.hid fun W t => by
                        have c := CV4.out W t
                        rw [(v3.out hok).2] at c
                        exact c
                      have qe : (other.toList == key.toList) = false := by rw [bytes_beq, decide_eq_false hok]
                      clear hok cv3 CV3 CV4
                      obtain ⟨c0, c1, c2, c3, c4, c5, c6, c7⟩ := at8 (X1.out.1.no T18.out)
                      go_upto_region 21 with (go_at_call 36; (with_reducible refine CV5.out.mono ?_); rintro e w19 ⟨rfl, ht⟩; have T19 := Lib.hid (T18.out.trans ht); clear ht c0 c1 c2 c3 c4 c5 c6 c7; obtain ⟨c0, c1, c2, c3, c4, c5, c6, c7⟩ := at8 (X2.out.1.no T19.out))
                      go_wp2_with (go_at_call 36; (with_reducible refine (CV6.out _ T19.out).mono ?_); rintro e w20 ⟨rfl, ht⟩; have T20 := Lib.hid (T19.out.trans ht); clear ht c0 c1 c2 c3 c4 c5 c6 c7)
                      go_meet
                      exact T20
              case rest =>
                have TJ := hcut
                generalize wc = w16 at TJ ⊢
                replace T := Lib.hid (T.out.trans TJ.out)
                clear TJ X1 X2 FA FB HBB HLR
                by_cases hso : SplO ⟨leaf, K, V, D, high, bnd, ⟨sl, ge⟩⟩
                · have C := Lib.hid (split_g ck cv cd nxt (HI.out _ (HB.out.1.trans T.out)) hso)
                  have HSO := Lib.hid hso
                  clear hso
                  obtain ⟨c0, c1, c2, c3, c4, c5, c6, c7⟩ := at8 (HC.out _ T.out)
                  obtain ⟨k0, k1⟩ := at2 (HB.out.2.2.no T.out)
                  go_upto_region 25 with (go_at_call 17; (with_reducible refine C.out.mono ?_); rintro e w17 ⟨sep, KL, VL, DL, KR, VR, DR, A1, a1, A2, a2, A3, a3, B1, b1, B2, b2, B3, b3, rfl, hf, hl, hrr, ht⟩; have HJ := Lib.hid (And.intro hl (And.intro hrr ht)); have HSP := Lib.hid hf; clear hf hl hrr ht c0 c1 c2 c3 c4 c5 c6 c7 k0 k1)
                  clear C
                  have TA : Turn No w17 (w17.alloc (.cells #[.bool leaf, .slice A1 KL.length a1, .slice A2 VL.length a2, .slice A3 DL.length a3, .string sep, .bool true, .int .i64 nxt.slot, .int .u64 nxt.gen] 29)) := (Turn.refl _ _).alloc _
                  have TB : Turn No (w17.alloc (.cells #[.bool leaf, .slice A1 KL.length a1, .slice A2 VL.length a2, .slice A3 DL.length a3, .string sep, .bool true, .int .i64 nxt.slot, .int .u64 nxt.gen] 29)) ((w17.alloc (.cells #[.bool leaf, .slice A1 KL.length a1, .slice A2 VL.length a2, .slice A3 DL.length a3, .string sep, .bool true, .int .i64 nxt.slot, .int .u64 nxt.gen] 29)).alloc (.cells #[.bool leaf, .slice B1 KR.length b1, .slice B2 VR.length b2, .slice B3 DR.length b3, .string high, .bool bnd, .int .i64 sl, .int .u64 ge] 29)) := (Turn.refl _ _).alloc _
                  have aR := At.new (w17.alloc (.cells #[.bool leaf, .slice A1 KL.length a1, .slice A2 VL.length a2, .slice A3 DL.length a3, .string sep, .bool true, .int .i64 nxt.slot, .int .u64 nxt.gen] 29)) (.cells #[.bool leaf, .slice B1 KR.length b1, .slice B2 VR.length b2, .slice B3 DR.length b3, .string high, .bool bnd, .int .i64 sl, .int .u64 ge] 29)
                  rw [World.size_alloc] at aR
                  have X1 := Lib.hid (And.intro ((At.new w17 (.cells #[.bool leaf, .slice A1 KL.length a1, .slice A2 VL.length a2, .slice A3 DL.length a3, .string sep, .bool true, .int .i64 nxt.slot, .int .u64 nxt.gen] 29)).no TB) ((HJ.out.1.no TA).no TB))
                  have X2 := Lib.hid (And.intro aR ((HJ.out.2.1.no TA).no TB))
                  have TJ := Lib.hid ((HJ.out.2.2.trans TA).trans TB)
                  clear HJ TA TB aR
                  generalize ((w17.alloc (.cells #[.bool leaf, .slice A1 KL.length a1, .slice A2 VL.length a2, .slice A3 DL.length a3, .string sep, .bool true, .int .i64 nxt.slot, .int .u64 nxt.gen] 29)).alloc (.cells #[.bool leaf, .slice B1 KR.length b1, .slice B2 VR.length b2, .slice B3 DR.length b3, .string high, .bool bnd, .int .i64 sl, .int .u64 ge] 29)) = w18 at X1 X2 TJ ⊢
                  obtain ⟨r34, hr⟩ : ∃ q, w17.heap.size = q := ⟨_, rfl⟩
                  rw [hr] at X1 X2
                  rw [hr]
                  clear hr
                  replace T := Lib.hid (T.out.trans TJ.out)
                  clear TJ
                  have c0 := (HC.out _ T.out).cell 0
                  have c1 := (HC.out _ T.out).cell 1
                  simp at c0 c1
                  go_cut [247] from 233 to 247 (fun s wx => s = .bool false ∧ wx = w18)
                  case first =>
                    cases leaf with
                    | true =>
                      have q2 : ¬ (K.length : Int) < 2 := by have := HSO.out.2.1 rfl; simp only at this; omega
                      go_wp2_with fail
                      go_meet
                      exact ⟨rfl, by first | rfl | trivial⟩
                    | false =>
                      have q2 : ¬ (K.length : Int) < 2 := by have := HSO.out.2.2 rfl; simp only at this; omega
                      have q3 : ¬ (K.length : Int) < 3 := by have := HSO.out.2.2 rfl; simp only at this; omega
                      go_wp2_with fail
                      go_meet
                      exact ⟨rfl, by first | rfl | trivial⟩
                  case rest =>
                    obtain ⟨rfl, hwc⟩ := hcut
                    subst hwc
                    generalize wc = w18 at T X1 X2 ⊢
                    clear c0 c1
                    have CA := Lib.hid (right_yes ⟨leaf, KL, VL, DL, sep, true, nxt⟩ A1 A2 A3 a1 a2 a3 w18 X1.out.2 HSP.out.l)
                    have CB := Lib.hid fun (W : World) (t : Turn No w18 W) => right_yes ⟨leaf, KR, VR, DR, high, bnd, ⟨sl, ge⟩⟩ B1 B2 B3 b1 b2 b3 W (X2.out.2.no t) HSP.out.r
                    have CD := Lib.hid fun (W : World) (t : Turn No w18 W) => covers_yes ⟨leaf, K, V, D, high, bnd, ⟨sl, ge⟩⟩ AK AV AD ck cv cd sep W ((HI.out _ (HB.out.1.trans T.out)).no t) HSP.out.fit HSP.out.cov
                    simp only at CA CB CD
                    have ql0 : ((KL.length : Int) == 0) = false := by have := HSP.out.l0; rw [beq_eq_false_iff_ne]; omega
                    have qr0 : ((KR.length : Int) == 0) = false := by have := HSP.out.r0; rw [beq_eq_false_iff_ne]; omega
                    obtain ⟨c0, c1, c2, c3, c4, c5, c6, c7⟩ := at8 X1.out.1
                    go_upto_region 29 with (first | (go_at_call 25; (with_reducible refine CA.out.mono ?_); rintro e w19 ⟨rfl, ht⟩; have T19 := Lib.hid ht; clear ht c0 c1 c2 c3 c4 c5 c6 c7; obtain ⟨c0, c1, c2, c3, c4, c5, c6, c7⟩ := at8 (X2.out.1.no T19.out)) | (go_at_call 25; (with_reducible refine (CB.out _ T19.out).mono ?_); rintro e w20 ⟨rfl, ht⟩; have T20 := Lib.hid (T19.out.trans ht); clear ht c0 c1 c2 c3 c4 c5 c6 c7; obtain ⟨c0, c1, c2, c3, c4, c5, c6, c7⟩ := at8 (HC.out _ (T.out.trans T20.out)); have e1 := (X1.out.1.no T20.out).cell 1; have f1 := (X2.out.1.no T20.out).cell 1; simp at e1 f1) | (go_at_call 26; (with_reducible refine (CD.out _ T20.out).mono ?_); rintro e w21 ⟨rfl, ht⟩; have T21 := Lib.hid (T20.out.trans ht); clear ht c0 c1 c2 c3 c4 c5 c6 c7 e1 f1))
                    replace T := Lib.hid (T.out.trans T21.out)
                    replace X1 := Lib.hid (And.intro (X1.out.1.no T21.out) (X1.out.2.no T21.out))
                    replace X2 := Lib.hid (And.intro (X2.out.1.no T21.out) (X2.out.2.no T21.out))
                    clear CA CB CD T19 T20 T21 ql0 qr0
                    by_cases hcv : NdCov ⟨leaf, K, V, D, high, bnd, ⟨sl, ge⟩⟩ other
                    · have C := Lib.hid (covers_yes ⟨leaf, K, V, D, high, bnd, ⟨sl, ge⟩⟩ AK AV AD ck cv cd other w21 (HI.out _ (HB.out.1.trans T.out)) HF.out.2.1 hcv)
                      simp only at C
                      obtain ⟨c0, c1, c2, c3, c4, c5, c6, c7⟩ := at8 (HC.out _ T.out)
                      go_upto_region 31 with (go_at_call 26; (with_reducible refine C.out.mono ?_); rintro e w22 ⟨rfl, ht⟩; have TJ := Lib.hid ht; clear ht c0 c1 c2 c3 c4 c5 c6 c7)
                      replace T := Lib.hid (T.out.trans TJ.out)
                      replace X1 := Lib.hid (And.intro (X1.out.1.no TJ.out) (X1.out.2.no TJ.out))
                      replace X2 := Lib.hid (And.intro (X2.out.1.no TJ.out) (X2.out.2.no TJ.out))
                      clear TJ C
                      obtain ⟨c0, c1, c2, c3, c4, c5, c6, c7⟩ := at8 X2.out.1
                      go_upto_region 32 with fail
                      clear c0 c1 c2 c3 c4 c5 c6 c7
                      have X3 := Lib.hid (And.intro (At.new w22 (.cells #[.bool leaf, .slice B1 KR.length b1, .slice B2 VR.length b2, .slice B3 DR.length b3, .string high, .bool bnd, .int .i64 sl, .int .u64 ge] 29)) (X2.out.2.no ((Turn.refl No w22).alloc (.cells #[.bool leaf, .slice B1 KR.length b1, .slice B2 VR.length b2, .slice B3 DR.length b3, .string high, .bool bnd, .int .i64 sl, .int .u64 ge] 29))))
                      have HRR : Hid (w22.heap.size ≤ w22.heap.size ∧ r34 < w22.heap.size ∧ r34 + 1 < w22.heap.size ∧ w1.heap.size ≤ w22.heap.size) := Lib.hid ⟨Nat.le_refl _, X1.out.1.lt, X2.out.1.lt, T.out.size⟩
                      have X1o := X1
                      have TJ := Lib.hid ((Turn.refl No w22).alloc (.cells #[.bool leaf, .slice B1 KR.length b1, .slice B2 VR.length b2, .slice B3 DR.length b3, .string high, .bool bnd, .int .i64 sl, .int .u64 ge] 29))
                      generalize (w22.alloc (.cells #[.bool leaf, .slice B1 KR.length b1, .slice B2 VR.length b2, .slice B3 DR.length b3, .string high, .bool bnd, .int .i64 sl, .int .u64 ge] 29)) = w23 at X3 TJ ⊢
                      obtain ⟨r37, hr⟩ : ∃ q, w22.heap.size = q := ⟨_, rfl⟩
                      rw [hr] at X3 HRR
                      rw [hr]
                      have HR37 := Lib.hid hr
                      clear hr
                      replace T := Lib.hid (T.out.trans TJ.out)
                      replace X1 := Lib.hid (And.intro (X1.out.1.no TJ.out) (X1.out.2.no TJ.out))
                      replace X2 := Lib.hid (And.intro (X2.out.1.no TJ.out) (X2.out.2.no TJ.out))
                      have CD := Lib.hid fun (W : World) (t : Turn No w23 W) => covers_yes ⟨leaf, KR, VR, DR, high, bnd, ⟨sl, ge⟩⟩ B1 B2 B3 b1 b2 b3 other W (X2.out.2.no t) HF.out.2.1 hcv
                      simp only at CD
                      have ql := sless other sep
                      obtain ⟨c0, c1, c2, c3, c4, c5, c6, c7⟩ := at8 X1.out.1
                      by_cases ho : kl other sep
                      · have CA := Lib.hid (covers_yes ⟨leaf, KL, VL, DL, sep, true, nxt⟩ A1 A2 A3 a1 a2 a3 other w23 X1.out.2 HF.out.2.1 (fun _ => ho))
                        simp only at CA
                        rw [decide_eq_true ho] at ql
                        go_upto_region 34 with (first | (go_at_call 26; (with_reducible refine CA.out.mono ?_); rintro e w24 ⟨rfl, ht⟩; have T24 := Lib.hid ht; clear ht c0 c1 c2 c3 c4 c5 c6 c7; obtain ⟨c0, c1, c2, c3, c4, c5, c6, c7⟩ := at8 (X2.out.1.no T24.out)) | (go_at_call 26; (with_reducible refine (CD.out _ T24.out).mono ?_); rintro e w25 ⟨rfl, ht⟩; have T25 := Lib.hid (T24.out.trans ht); clear ht c0 c1 c2 c3 c4 c5 c6 c7))
                        have TB := Lib.hid (TJ.out.trans T25.out)
                        replace T := Lib.hid (T.out.trans T25.out)
                        replace X1 := Lib.hid (And.intro (X1.out.1.no T25.out) (X1.out.2.no T25.out))
                        replace X3 := Lib.hid (And.intro (X3.out.1.no T25.out) (X3.out.2.no T25.out))
                        clear CA CD T24 T25
                        obtain ⟨c0, c1, c2, c3, c4, c5, c6, c7⟩ := at8 X1.out.1
                        obtain ⟨e0, e1, e2, e3, e4, e5, e6, e7⟩ := at8 X3.out.1
                        obtain ⟨z0, z1, z2, z3, z4, z5, z6, z7⟩ := th8 X3.out.1
                        go_upto_region 36 with fail
                        have X4 : Hid (At ((((((((w25.setCell ⟨r37, 0, none⟩ (.bool leaf)).setCell ⟨r37, 1, none⟩ (.slice A1 KL.length a1)).setCell ⟨r37, 2, none⟩ (.slice A2 VL.length a2)).setCell ⟨r37, 3, none⟩ (.slice A3 DL.length a3)).setCell ⟨r37, 4, none⟩ (.string sep)).setCell ⟨r37, 5, none⟩ (.bool true)).setCell ⟨r37, 6, none⟩ (.int .i64 nxt.slot)).setCell ⟨r37, 7, none⟩ (.int .u64 nxt.gen)) r37 (.cells #[.bool leaf, .slice A1 KL.length a1, .slice A2 VL.length a2, .slice A3 DL.length a3, .string sep, .bool true, .int .i64 nxt.slot, .int .u64 nxt.gen] 29 (0, 0)) ∧ In ((((((((w25.setCell ⟨r37, 0, none⟩ (.bool leaf)).setCell ⟨r37, 1, none⟩ (.slice A1 KL.length a1)).setCell ⟨r37, 2, none⟩ (.slice A2 VL.length a2)).setCell ⟨r37, 3, none⟩ (.slice A3 DL.length a3)).setCell ⟨r37, 4, none⟩ (.string sep)).setCell ⟨r37, 5, none⟩ (.bool true)).setCell ⟨r37, 6, none⟩ (.int .i64 nxt.slot)).setCell ⟨r37, 7, none⟩ (.int .u64 nxt.gen)) ⟨leaf, KL, VL, DL, sep, true, nxt⟩ A1 A2 A3 ∧ Turn No w1 ((((((((w25.setCell ⟨r37, 0, none⟩ (.bool leaf)).setCell ⟨r37, 1, none⟩ (.slice A1 KL.length a1)).setCell ⟨r37, 2, none⟩ (.slice A2 VL.length a2)).setCell ⟨r37, 3, none⟩ (.slice A3 DL.length a3)).setCell ⟨r37, 4, none⟩ (.string sep)).setCell ⟨r37, 5, none⟩ (.bool true)).setCell ⟨r37, 6, none⟩ (.int .i64 nxt.slot)).setCell ⟨r37, 7, none⟩ (.int .u64 nxt.gen))) := Lib.hid (by
                          have tw := turn8 w25 r37 (.bool leaf) (.slice A1 KL.length a1) (.slice A2 VL.length a2) (.slice A3 DL.length a3) (.string sep) (.bool true) (.int .i64 nxt.slot) (.int .u64 nxt.gen)
                          refine ⟨put8 X3.out.1 _ _ _ _ _ _ _ _, in_below X1o.out.2 TB.out (by rw [HR37.out]; exact Nat.le_refl _) tw, T.out.then tw fun i hi e => ?_⟩
                          have := HRR.out.2.2.2
                          omega)
                        clear c0 c1 c2 c3 c4 c5 c6 c7 e0 e1 e2 e3 e4 e5 e6 e7 z0 z1 z2 z3 z4 z5 z6 z7 T X3 TJ TB X1 X2 X1o
                        generalize ((((((((w25.setCell ⟨r37, 0, none⟩ (.bool leaf)).setCell ⟨r37, 1, none⟩ (.slice A1 KL.length a1)).setCell ⟨r37, 2, none⟩ (.slice A2 VL.length a2)).setCell ⟨r37, 3, none⟩ (.slice A3 DL.length a3)).setCell ⟨r37, 4, none⟩ (.string sep)).setCell ⟨r37, 5, none⟩ (.bool true)).setCell ⟨r37, 6, none⟩ (.int .i64 nxt.slot)).setCell ⟨r37, 7, none⟩ (.int .u64 nxt.gen)) = w30 at X4 ⊢
                        have X3 := Lib.hid (And.intro X4.out.1 X4.out.2.1)
                        have T := Lib.hid X4.out.2.2
                        clear X4
                        cases leaf with
                        | true =>
                          have hx := X3.out.2
                          have cv := value_c true KL VL DL.length sep true nxt.slot nxt.gen A1 A2 A3 a1 a2 a3 other w30 hx.k hx.v hx.fk HF.out.2.1 (Nat.le_trans hx.lk (by decide)) (Nat.le_trans hx.lv (by decide))
                          have hv := HSP.out.val rfl other
                          rw [if_pos ho, HU.out] at hv
                          rw [← hv] at cv
                          clear hv
                          have CV := Lib.hid cv
                          clear cv hx
                          obtain ⟨c0, c1, c2, c3, c4, c5, c6, c7⟩ := at8 X3.out.1
                          go_upto_region 37 with (go_at_call 36; (with_reducible refine CV.out.mono ?_); rintro e w31 ⟨rfl, ht⟩; have TJ := Lib.hid ht; clear ht c0 c1 c2 c3 c4 c5 c6 c7)
                          replace T := Lib.hid (T.out.trans TJ.out)
                          replace X3 := Lib.hid (And.intro (X3.out.1.no TJ.out) (X3.out.2.no TJ.out))
                          clear TJ CV
                          have C := Lib.hid (kid_no ⟨true, K, V, D, high, bnd, ⟨sl, ge⟩⟩ AK AV AD ck cv cd other w31 (HI.out _ (HB.out.1.trans T.out)) HF.out.2.1 (fun h => by cases h.2.1))
                          simp only at C
                          obtain ⟨c0, c1, c2, c3, c4, c5, c6, c7⟩ := at8 (HC.out _ T.out)
                          go_upto_region 38 with (go_at_call 15; (with_reducible refine C.out.mono ?_); rintro e w32 ⟨rfl, ht⟩; have HJ := Lib.hid ht; clear ht c0 c1 c2 c3 c4 c5 c6 c7)
                          have X4 := Lib.hid (And.intro (At.new w32 (.cells #[.int .i64 0, .int .u64 0] 27)) True.intro)
                          have TJ := Lib.hid (HJ.out.alloc (.cells #[.int .i64 0, .int .u64 0] 27))
                          clear HJ C
                          generalize (w32.alloc (.cells #[.int .i64 0, .int .u64 0] 27)) = w33 at X4 TJ ⊢
                          obtain ⟨r40, hr⟩ : ∃ q, w32.heap.size = q := ⟨_, rfl⟩
                          rw [hr] at X4
                          rw [hr]
                          clear hr
                          replace T := Lib.hid (T.out.trans TJ.out)
                          replace X3 := Lib.hid (And.intro (X3.out.1.no TJ.out) (X3.out.2.no TJ.out))
                          clear TJ
                          have C := Lib.hid (kid_no ⟨true, KL, VL, DL, sep, true, nxt⟩ A1 A2 A3 a1 a2 a3 other w33 X3.out.2 HF.out.2.1 (fun h => by cases h.2.1))
                          simp only at C
                          obtain ⟨c0, c1, c2, c3, c4, c5, c6, c7⟩ := at8 X3.out.1
                          go_upto_region 39 with (go_at_call 15; (with_reducible refine C.out.mono ?_); rintro e w34 ⟨rfl, ht⟩; have HJ := Lib.hid ht; clear ht c0 c1 c2 c3 c4 c5 c6 c7)
                          have TJ := Lib.hid (HJ.out.alloc (.cells #[.int .i64 0, .int .u64 0] 27))
                          have X5 := Lib.hid (At.new w34 (.cells #[.int .i64 0, .int .u64 0] 27))
                          clear HJ C
                          generalize (w34.alloc (.cells #[.int .i64 0, .int .u64 0] 27)) = w35 at X5 TJ ⊢
                          obtain ⟨r42, hr⟩ : ∃ q, w34.heap.size = q := ⟨_, rfl⟩
                          rw [hr] at X5
                          rw [hr]
                          clear hr
                          have c0 := (HC.out _ (T.out.trans TJ.out)).cell 0
                          simp at c0
                          obtain ⟨k0, k1⟩ := at2 (X4.out.1.no TJ.out)
                          obtain ⟨m0, m1⟩ := at2 X5.out
                          have qq := eql_same 0 0
                          go_wp2_with fail
                          go_ret
                          exact ⟨rfl, HB.out.1.trans (T.out.trans TJ.out)⟩
                        | false =>
                          have hx := X3.out.2
                          have cv := value_c false KL VL DL.length sep true nxt.slot nxt.gen A1 A2 A3 a1 a2 a3 other w30 hx.k hx.v hx.fk HF.out.2.1 (Nat.le_trans hx.lk (by decide)) (Nat.le_trans hx.lv (by decide))
                          obtain ⟨u2, is2, hu2⟩ := valT_some KL VL other
                          rw [hu2] at cv
                          have CV := Lib.hid cv
                          clear cv hx
                          obtain ⟨c0, c1, c2, c3, c4, c5, c6, c7⟩ := at8 X3.out.1
                          go_upto_region 37 with (go_at_call 36; (with_reducible refine CV.out.mono ?_); rintro e w31 ⟨rfl, ht⟩; have TJ := Lib.hid ht; clear ht c0 c1 c2 c3 c4 c5 c6 c7)
                          replace T := Lib.hid (T.out.trans TJ.out)
                          replace X3 := Lib.hid (And.intro (X3.out.1.no TJ.out) (X3.out.2.no TJ.out))
                          clear TJ CV
                          obtain ⟨⟨hs, hg⟩, hhk⟩ := kid_there (n := ⟨false, K, V, D, high, bnd, ⟨sl, ge⟩⟩) HR.out rfl other
                          have HHK := Lib.hid hhk
                          have C := Lib.hid (kid_yes ⟨false, K, V, D, high, bnd, ⟨sl, ge⟩⟩ AK AV AD ck cv cd other w31 (HI.out _ (HB.out.1.trans T.out)) HF.out.2.1 ⟨HR.out, rfl, hcv⟩ hhk)
                          clear hhk
                          simp only at C
                          obtain ⟨c0, c1, c2, c3, c4, c5, c6, c7⟩ := at8 (HC.out _ T.out)
                          go_upto_region 38 with (go_at_call 15; (with_reducible refine C.out.mono ?_); rintro e w32 ⟨rfl, ht⟩; have HJ := Lib.hid ht; clear ht c0 c1 c2 c3 c4 c5 c6 c7)
                          have X4 := Lib.hid (And.intro (At.new w32 (.cells #[.int .i64 hs, .int .u64 hg] 27)) True.intro)
                          have TJ := Lib.hid (HJ.out.alloc (.cells #[.int .i64 hs, .int .u64 hg] 27))
                          clear HJ C
                          generalize (w32.alloc (.cells #[.int .i64 hs, .int .u64 hg] 27)) = w33 at X4 TJ ⊢
                          obtain ⟨r40, hr⟩ : ∃ q, w32.heap.size = q := ⟨_, rfl⟩
                          rw [hr] at X4
                          rw [hr]
                          clear hr
                          replace T := Lib.hid (T.out.trans TJ.out)
                          replace X3 := Lib.hid (And.intro (X3.out.1.no TJ.out) (X3.out.2.no TJ.out))
                          clear TJ
                          have C := Lib.hid (kid_yes ⟨false, KL, VL, DL, sep, true, nxt⟩ A1 A2 A3 a1 a2 a3 other w33 X3.out.2 HF.out.2.1 ⟨HSP.out.l, rfl, fun _ => ho⟩ (hh := ⟨hs, hg⟩) (by have h := (HSP.out.kid rfl other).1 ho; rw [HHK.out] at h; exact h))
                          simp only at C
                          obtain ⟨c0, c1, c2, c3, c4, c5, c6, c7⟩ := at8 X3.out.1
                          go_upto_region 39 with (go_at_call 15; (with_reducible refine C.out.mono ?_); rintro e w34 ⟨rfl, ht⟩; have HJ := Lib.hid ht; clear ht c0 c1 c2 c3 c4 c5 c6 c7)
                          have TJ := Lib.hid (HJ.out.alloc (.cells #[.int .i64 hs, .int .u64 hg] 27))
                          have X5 := Lib.hid (At.new w34 (.cells #[.int .i64 hs, .int .u64 hg] 27))
                          clear HJ C
                          generalize (w34.alloc (.cells #[.int .i64 hs, .int .u64 hg] 27)) = w35 at X5 TJ ⊢
                          obtain ⟨r42, hr⟩ : ∃ q, w34.heap.size = q := ⟨_, rfl⟩
                          rw [hr] at X5
                          rw [hr]
                          clear hr
                          have c0 := (HC.out _ (T.out.trans TJ.out)).cell 0
                          simp at c0
                          obtain ⟨k0, k1⟩ := at2 (X4.out.1.no TJ.out)
                          obtain ⟨m0, m1⟩ := at2 X5.out
                          have qq := eql_same hs hg
                          go_wp2_with fail
                          go_ret
                          exact ⟨rfl, HB.out.1.trans (T.out.trans TJ.out)⟩
                      · have CA := Lib.hid (covers_no ⟨leaf, KL, VL, DL, sep, true, nxt⟩ A1 A2 A3 a1 a2 a3 other w23 X1.out.2 HF.out.2.1 (fun h => ho (h rfl)))
                        simp only at CA
                        rw [decide_eq_false ho] at ql
                        go_upto_region 34 with (first | (go_at_call 26; (with_reducible refine CA.out.mono ?_); rintro e w24 ⟨rfl, ht⟩; have T24 := Lib.hid ht; clear ht c0 c1 c2 c3 c4 c5 c6 c7; obtain ⟨c0, c1, c2, c3, c4, c5, c6, c7⟩ := at8 (X2.out.1.no T24.out)) | (go_at_call 26; (with_reducible refine (CD.out _ T24.out).mono ?_); rintro e w30 ⟨rfl, ht⟩; have T25 := Lib.hid (T24.out.trans ht); clear ht c0 c1 c2 c3 c4 c5 c6 c7))
                        replace T := Lib.hid (T.out.trans T25.out)
                        replace X3 := Lib.hid (And.intro (X3.out.1.no T25.out) (X3.out.2.no T25.out))
                        clear CA CD T24 T25 X1 X2 X1o TJ
                        go_upto_region 36 with fail
                        cases leaf with
                        | true =>
                          have hx := X3.out.2
                          have cv := value_c true KR VR DR.length high bnd sl ge B1 B2 B3 b1 b2 b3 other w30 hx.k hx.v hx.fk HF.out.2.1 (Nat.le_trans hx.lk (by decide)) (Nat.le_trans hx.lv (by decide))
                          have hv := HSP.out.val rfl other
                          rw [if_neg ho, HU.out] at hv
                          rw [← hv] at cv
                          clear hv
                          have CV := Lib.hid cv
                          clear cv hx
                          obtain ⟨c0, c1, c2, c3, c4, c5, c6, c7⟩ := at8 X3.out.1
                          go_upto_region 37 with (go_at_call 36; (with_reducible refine CV.out.mono ?_); rintro e w31 ⟨rfl, ht⟩; have TJ := Lib.hid ht; clear ht c0 c1 c2 c3 c4 c5 c6 c7)
                          replace T := Lib.hid (T.out.trans TJ.out)
                          replace X3 := Lib.hid (And.intro (X3.out.1.no TJ.out) (X3.out.2.no TJ.out))
                          clear TJ CV
                          have C := Lib.hid (kid_no ⟨true, K, V, D, high, bnd, ⟨sl, ge⟩⟩ AK AV AD ck cv cd other w31 (HI.out _ (HB.out.1.trans T.out)) HF.out.2.1 (fun h => by cases h.2.1))
                          simp only at C
                          obtain ⟨c0, c1, c2, c3, c4, c5, c6, c7⟩ := at8 (HC.out _ T.out)
                          go_upto_region 38 with (go_at_call 15; (with_reducible refine C.out.mono ?_); rintro e w32 ⟨rfl, ht⟩; have HJ := Lib.hid ht; clear ht c0 c1 c2 c3 c4 c5 c6 c7)
                          have X4 := Lib.hid (And.intro (At.new w32 (.cells #[.int .i64 0, .int .u64 0] 27)) True.intro)
                          have TJ := Lib.hid (HJ.out.alloc (.cells #[.int .i64 0, .int .u64 0] 27))
                          clear HJ C
                          generalize (w32.alloc (.cells #[.int .i64 0, .int .u64 0] 27)) = w33 at X4 TJ ⊢
                          obtain ⟨r40, hr⟩ : ∃ q, w32.heap.size = q := ⟨_, rfl⟩
                          rw [hr] at X4
                          rw [hr]
                          clear hr
                          replace T := Lib.hid (T.out.trans TJ.out)
                          replace X3 := Lib.hid (And.intro (X3.out.1.no TJ.out) (X3.out.2.no TJ.out))
                          clear TJ
                          have C := Lib.hid (kid_no ⟨true, KR, VR, DR, high, bnd, ⟨sl, ge⟩⟩ B1 B2 B3 b1 b2 b3 other w33 X3.out.2 HF.out.2.1 (fun h => by cases h.2.1))
                          simp only at C
                          obtain ⟨c0, c1, c2, c3, c4, c5, c6, c7⟩ := at8 X3.out.1
                          go_upto_region 39 with (go_at_call 15; (with_reducible refine C.out.mono ?_); rintro e w34 ⟨rfl, ht⟩; have HJ := Lib.hid ht; clear ht c0 c1 c2 c3 c4 c5 c6 c7)
                          have TJ := Lib.hid (HJ.out.alloc (.cells #[.int .i64 0, .int .u64 0] 27))
                          have X5 := Lib.hid (At.new w34 (.cells #[.int .i64 0, .int .u64 0] 27))
                          clear HJ C
                          generalize (w34.alloc (.cells #[.int .i64 0, .int .u64 0] 27)) = w35 at X5 TJ ⊢
                          obtain ⟨r42, hr⟩ : ∃ q, w34.heap.size = q := ⟨_, rfl⟩
                          rw [hr] at X5
                          rw [hr]
                          clear hr
                          have c0 := (HC.out _ (T.out.trans TJ.out)).cell 0
                          simp at c0
                          obtain ⟨k0, k1⟩ := at2 (X4.out.1.no TJ.out)
                          obtain ⟨m0, m1⟩ := at2 X5.out
                          have qq := eql_same 0 0
                          go_wp2_with fail
                          go_ret
                          exact ⟨rfl, HB.out.1.trans (T.out.trans TJ.out)⟩
                        | false =>
                          have hx := X3.out.2
                          have cv := value_c false KR VR DR.length high bnd sl ge B1 B2 B3 b1 b2 b3 other w30 hx.k hx.v hx.fk HF.out.2.1 (Nat.le_trans hx.lk (by decide)) (Nat.le_trans hx.lv (by decide))
                          obtain ⟨u2, is2, hu2⟩ := valT_some KR VR other
                          rw [hu2] at cv
                          have CV := Lib.hid cv
                          clear cv hx
                          obtain ⟨c0, c1, c2, c3, c4, c5, c6, c7⟩ := at8 X3.out.1
                          go_upto_region 37 with (go_at_call 36; (with_reducible refine CV.out.mono ?_); rintro e w31 ⟨rfl, ht⟩; have TJ := Lib.hid ht; clear ht c0 c1 c2 c3 c4 c5 c6 c7)
                          replace T := Lib.hid (T.out.trans TJ.out)
                          replace X3 := Lib.hid (And.intro (X3.out.1.no TJ.out) (X3.out.2.no TJ.out))
                          clear TJ CV
                          obtain ⟨⟨hs, hg⟩, hhk⟩ := kid_there (n := ⟨false, K, V, D, high, bnd, ⟨sl, ge⟩⟩) HR.out rfl other
                          have HHK := Lib.hid hhk
                          have C := Lib.hid (kid_yes ⟨false, K, V, D, high, bnd, ⟨sl, ge⟩⟩ AK AV AD ck cv cd other w31 (HI.out _ (HB.out.1.trans T.out)) HF.out.2.1 ⟨HR.out, rfl, hcv⟩ hhk)
                          clear hhk
                          simp only at C
                          obtain ⟨c0, c1, c2, c3, c4, c5, c6, c7⟩ := at8 (HC.out _ T.out)
                          go_upto_region 38 with (go_at_call 15; (with_reducible refine C.out.mono ?_); rintro e w32 ⟨rfl, ht⟩; have HJ := Lib.hid ht; clear ht c0 c1 c2 c3 c4 c5 c6 c7)
                          have X4 := Lib.hid (And.intro (At.new w32 (.cells #[.int .i64 hs, .int .u64 hg] 27)) True.intro)
                          have TJ := Lib.hid (HJ.out.alloc (.cells #[.int .i64 hs, .int .u64 hg] 27))
                          clear HJ C
                          generalize (w32.alloc (.cells #[.int .i64 hs, .int .u64 hg] 27)) = w33 at X4 TJ ⊢
                          obtain ⟨r40, hr⟩ : ∃ q, w32.heap.size = q := ⟨_, rfl⟩
                          rw [hr] at X4
                          rw [hr]
                          clear hr
                          replace T := Lib.hid (T.out.trans TJ.out)
                          replace X3 := Lib.hid (And.intro (X3.out.1.no TJ.out) (X3.out.2.no TJ.out))
                          clear TJ
                          have C := Lib.hid (kid_yes ⟨false, KR, VR, DR, high, bnd, ⟨sl, ge⟩⟩ B1 B2 B3 b1 b2 b3 other w33 X3.out.2 HF.out.2.1 ⟨HSP.out.r, rfl, hcv⟩ (hh := ⟨hs, hg⟩) (by have h := (HSP.out.kid rfl other).2 ho; rw [HHK.out] at h; exact h))
                          simp only at C
                          obtain ⟨c0, c1, c2, c3, c4, c5, c6, c7⟩ := at8 X3.out.1
                          go_upto_region 39 with (go_at_call 15; (with_reducible refine C.out.mono ?_); rintro e w34 ⟨rfl, ht⟩; have HJ := Lib.hid ht; clear ht c0 c1 c2 c3 c4 c5 c6 c7)
                          have TJ := Lib.hid (HJ.out.alloc (.cells #[.int .i64 hs, .int .u64 hg] 27))
                          have X5 := Lib.hid (At.new w34 (.cells #[.int .i64 hs, .int .u64 hg] 27))
                          clear HJ C
                          generalize (w34.alloc (.cells #[.int .i64 hs, .int .u64 hg] 27)) = w35 at X5 TJ ⊢
                          obtain ⟨r42, hr⟩ : ∃ q, w34.heap.size = q := ⟨_, rfl⟩
                          rw [hr] at X5
                          rw [hr]
                          clear hr
                          have c0 := (HC.out _ (T.out.trans TJ.out)).cell 0
                          simp at c0
                          obtain ⟨k0, k1⟩ := at2 (X4.out.1.no TJ.out)
                          obtain ⟨m0, m1⟩ := at2 X5.out
                          have qq := eql_same hs hg
                          go_wp2_with fail
                          go_ret
                          exact ⟨rfl, HB.out.1.trans (T.out.trans TJ.out)⟩
                    · have C := Lib.hid (covers_no ⟨leaf, K, V, D, high, bnd, ⟨sl, ge⟩⟩ AK AV AD ck cv cd other w21 (HI.out _ (HB.out.1.trans T.out)) HF.out.2.1 hcv)
                      have C2 := Lib.hid fun (W : World) (t : Turn No w21 W) => covers_no ⟨leaf, KR, VR, DR, high, bnd, ⟨sl, ge⟩⟩ B1 B2 B3 b1 b2 b3 other W (X2.out.2.no t) HF.out.2.1 hcv
                      simp only at C C2
                      obtain ⟨c0, c1, c2, c3, c4, c5, c6, c7⟩ := at8 (HC.out _ T.out)
                      go_wp2_with (first | (go_at_call 26; (with_reducible refine C.out.mono ?_); rintro e w22 ⟨rfl, ht⟩; have T22 := Lib.hid ht; clear ht c0 c1 c2 c3 c4 c5 c6 c7; obtain ⟨c0, c1, c2, c3, c4, c5, c6, c7⟩ := at8 (X2.out.1.no T22.out)) | (go_at_call 26; (with_reducible refine (C2.out _ T22.out).mono ?_); rintro e w23 ⟨rfl, ht⟩; have T23 := Lib.hid (T22.out.trans ht); clear ht c0 c1 c2 c3 c4 c5 c6 c7))
                      go_ret
                      exact ⟨rfl, HB.out.1.trans (T.out.trans T23.out)⟩
                · have C := Lib.hid (split_no ⟨leaf, K, V, D, high, bnd, ⟨sl, ge⟩⟩ AK AV AD ck cv cd nxt w16 (HI.out _ (HB.out.1.trans T.out)) hso)
                  have HSO := Lib.hid hso
                  clear hso
                  simp only at C
                  obtain ⟨c0, c1, c2, c3, c4, c5, c6, c7⟩ := at8 (HC.out _ T.out)
                  obtain ⟨k0, k1⟩ := at2 (HB.out.2.2.no T.out)
                  go_upto_region 25 with (go_at_call 17; (with_reducible refine C.out.mono ?_); rintro e w17 ⟨CK, ek, CV, ev, CD, ed, EK, fk1, EV, fv1, ED, fd1, rfl, hg, ht⟩; have HJ := Lib.hid (And.intro hg ht); clear hg ht c0 c1 c2 c3 c4 c5 c6 c7 k0 k1)
                  clear C
                  have TA : Turn No w17 (w17.alloc (.cells #[.bool leaf, .slice CK K.length ek, .slice CV V.length ev, .slice CD D.length ed, .string high, .bool bnd, .int .i64 sl, .int .u64 ge] 29)) := (Turn.refl _ _).alloc _
                  have TB : Turn No (w17.alloc (.cells #[.bool leaf, .slice CK K.length ek, .slice CV V.length ev, .slice CD D.length ed, .string high, .bool bnd, .int .i64 sl, .int .u64 ge] 29)) ((w17.alloc (.cells #[.bool leaf, .slice CK K.length ek, .slice CV V.length ev, .slice CD D.length ed, .string high, .bool bnd, .int .i64 sl, .int .u64 ge] 29)).alloc (.cells #[.bool false, .slice EK 0 fk1, .slice EV 0 fv1, .slice ED 0 fd1, .string ⟨#[]⟩, .bool false, .int .i64 0, .int .u64 0] 29)) := (Turn.refl _ _).alloc _
                  have X2 := Lib.hid (And.intro ((At.new w17 (.cells #[.bool leaf, .slice CK K.length ek, .slice CV V.length ev, .slice CD D.length ed, .string high, .bool bnd, .int .i64 sl, .int .u64 ge] 29)).no TB) ((HJ.out.1.no TA).no TB))
                  have TJ := Lib.hid ((HJ.out.2.trans TA).trans TB)
                  clear HJ TA TB
                  generalize ((w17.alloc (.cells #[.bool leaf, .slice CK K.length ek, .slice CV V.length ev, .slice CD D.length ed, .string high, .bool bnd, .int .i64 sl, .int .u64 ge] 29)).alloc (.cells #[.bool false, .slice EK 0 fk1, .slice EV 0 fv1, .slice ED 0 fd1, .string ⟨#[]⟩, .bool false, .int .i64 0, .int .u64 0] 29)) = w18 at X2 TJ ⊢
                  obtain ⟨r34, hr⟩ : ∃ q, w17.heap.size = q := ⟨_, rfl⟩
                  rw [hr] at X2
                  rw [hr]
                  clear hr
                  replace T := Lib.hid (T.out.trans TJ.out)
                  clear TJ
                  have CE2 := Lib.hid (eq_yes ⟨leaf, K, V, D, high, bnd, ⟨sl, ge⟩⟩ CK CV CD AK AV AD ek ev ed ck cv cd w18 X2.out.2.k X2.out.2.v X2.out.2.d (HI.out _ (HB.out.1.trans T.out)).k (HI.out _ (HB.out.1.trans T.out)).v (HI.out _ (HB.out.1.trans T.out)).d (Nat.le_trans X2.out.2.lk (by decide)) (Nat.le_trans X2.out.2.lv (by decide)) (Nat.le_trans X2.out.2.ld (by decide)))
                  simp only at CE2
                  obtain ⟨c0, c1, c2, c3, c4, c5, c6, c7⟩ := at8 (HC.out _ T.out)
                  obtain ⟨e0, e1, e2, e3, e4, e5, e6, e7⟩ := at8 X2.out.1
                  by_cases h2 : K.length < 2
                  · have q2 : (K.length : Int) < 2 := by omega
                    clear h2
                    go_wp2_with (go_at_call 18; (with_reducible refine CE2.out.mono ?_); rintro e w19 ⟨rfl, ht⟩; have T19 := Lib.hid ht; clear ht c0 c1 c2 c3 c4 c5 c6 c7 e0 e1 e2 e3 e4 e5 e6 e7)
                    go_ret
                    exact ⟨rfl, HB.out.1.trans (T.out.trans T19.out)⟩
                  · have h3 : leaf = false ∧ K.length < 3 := by
                      cases leaf with
                      | true => exact absurd ⟨HR.out, fun _ => by show 2 ≤ K.length; omega, fun h => (by cases h)⟩ HSO.out
                      | false => exact ⟨rfl, Nat.lt_of_not_le fun h => HSO.out ⟨HR.out, fun h => (by cases h), fun _ => h⟩⟩
                    obtain ⟨rfl, h3⟩ := h3
                    have q2 : ¬ (K.length : Int) < 2 := by omega
                    have q3 : (K.length : Int) < 3 := by omega
                    clear h2 h3
                    go_wp2_with (go_at_call 18; (with_reducible refine CE2.out.mono ?_); rintro e w19 ⟨rfl, ht⟩; have T19 := Lib.hid ht; clear ht c0 c1 c2 c3 c4 c5 c6 c7 e0 e1 e2 e3 e4 e5 e6 e7)
                    go_ret
                    exact ⟨rfl, HB.out.1.trans (T.out.trans T19.out)⟩
          · have HR := Lib.hid hr
            have C := Lib.hid (right_no ⟨leaf, K, V, D, high, bnd, ⟨sl, ge⟩⟩ AK AV AD ck cv cd w3 (HI.out _ (HB.out.1.trans T.out)) hr)
            simp only at C
            clear hr
            go_upto_region 6 with (go_at_call 25; (with_reducible refine C.out.mono ?_); rintro e w4 ⟨rfl, ht⟩; have TJ := Lib.hid ht; clear ht c0 c1 c2 c3 c4 c5 c6 c7)
            replace T := Lib.hid (T.out.trans TJ.out)
            clear TJ C
            have C := Lib.hid (put_no ⟨leaf, K, V, D, high, bnd, ⟨sl, ge⟩⟩ AK AV AD ck cv cd key val w4 (HI.out _ (HB.out.1.trans T.out)) HF.out.1 HF.out.2.2 (fun h => HR.out h.1))
            simp only at C
            obtain ⟨c0, c1, c2, c3, c4, c5, c6, c7⟩ := at8 (HC.out _ T.out)
            go_upto_region 7 with (go_at_call 12; (with_reducible refine C.out.mono ?_); rintro e w5 ⟨BK, dk, BV, dv, BD, dd, rfl, hg, ht⟩; have HJ := Lib.hid (And.intro hg ht); clear hg ht c0 c1 c2 c3 c4 c5 c6 c7)
            clear C
            have X1 := Lib.hid (And.intro (At.new w5 (.cells #[.bool leaf, .slice BK K.length dk, .slice BV V.length dv, .slice BD D.length dd, .string high, .bool bnd, .int .i64 sl, .int .u64 ge] 29)) (HJ.out.1.no ((Turn.refl No w5).alloc (.cells #[.bool leaf, .slice BK K.length dk, .slice BV V.length dv, .slice BD D.length dd, .string high, .bool bnd, .int .i64 sl, .int .u64 ge] 29))))
            have TJ := Lib.hid (HJ.out.2.alloc (.cells #[.bool leaf, .slice BK K.length dk, .slice BV V.length dv, .slice BD D.length dd, .string high, .bool bnd, .int .i64 sl, .int .u64 ge] 29))
            clear HJ
            generalize (w5.alloc (.cells #[.bool leaf, .slice BK K.length dk, .slice BV V.length dv, .slice BD D.length dd, .string high, .bool bnd, .int .i64 sl, .int .u64 ge] 29)) = w6 at X1 TJ ⊢
            obtain ⟨r11, hr⟩ : ∃ q, w5.heap.size = q := ⟨_, rfl⟩
            rw [hr] at X1
            rw [hr]
            clear hr
            replace T := Lib.hid (T.out.trans TJ.out)
            clear TJ
            have C := Lib.hid (split_no ⟨leaf, K, V, D, high, bnd, ⟨sl, ge⟩⟩ AK AV AD ck cv cd nxt w6 (HI.out _ (HB.out.1.trans T.out)) (fun h => HR.out h.1))
            simp only at C
            obtain ⟨c0, c1, c2, c3, c4, c5, c6, c7⟩ := at8 (HC.out _ T.out)
            obtain ⟨k0, k1⟩ := at2 (HB.out.2.2.no T.out)
            go_upto_region 8 with (go_at_call 17; (with_reducible refine C.out.mono ?_); rintro e w7 ⟨CK, ek, CV, ev, CD, ed, EK, fk1, EV, fv1, ED, fd1, rfl, hg, ht⟩; have HJ := Lib.hid (And.intro hg ht); clear hg ht c0 c1 c2 c3 c4 c5 c6 c7 k0 k1)
            clear C
            have TA : Turn No w7 (w7.alloc (.cells #[.bool leaf, .slice CK K.length ek, .slice CV V.length ev, .slice CD D.length ed, .string high, .bool bnd, .int .i64 sl, .int .u64 ge] 29)) := (Turn.refl _ _).alloc _
            have TB : Turn No (w7.alloc (.cells #[.bool leaf, .slice CK K.length ek, .slice CV V.length ev, .slice CD D.length ed, .string high, .bool bnd, .int .i64 sl, .int .u64 ge] 29)) ((w7.alloc (.cells #[.bool leaf, .slice CK K.length ek, .slice CV V.length ev, .slice CD D.length ed, .string high, .bool bnd, .int .i64 sl, .int .u64 ge] 29)).alloc (.cells #[.bool false, .slice EK 0 fk1, .slice EV 0 fv1, .slice ED 0 fd1, .string ⟨#[]⟩, .bool false, .int .i64 0, .int .u64 0] 29)) := (Turn.refl _ _).alloc _
            have X2 := Lib.hid (And.intro ((At.new w7 (.cells #[.bool leaf, .slice CK K.length ek, .slice CV V.length ev, .slice CD D.length ed, .string high, .bool bnd, .int .i64 sl, .int .u64 ge] 29)).no TB) ((HJ.out.1.no TA).no TB))
            have TJ := Lib.hid ((HJ.out.2.trans TA).trans TB)
            clear HJ TA TB
            generalize ((w7.alloc (.cells #[.bool leaf, .slice CK K.length ek, .slice CV V.length ev, .slice CD D.length ed, .string high, .bool bnd, .int .i64 sl, .int .u64 ge] 29)).alloc (.cells #[.bool false, .slice EK 0 fk1, .slice EV 0 fv1, .slice ED 0 fd1, .string ⟨#[]⟩, .bool false, .int .i64 0, .int .u64 0] 29)) = w8 at X2 TJ ⊢
            obtain ⟨r14, hr⟩ : ∃ q, w7.heap.size = q := ⟨_, rfl⟩
            rw [hr] at X2
            rw [hr]
            clear hr
            replace T := Lib.hid (T.out.trans TJ.out)
            replace X1 := Lib.hid (And.intro (X1.out.1.no TJ.out) (X1.out.2.no TJ.out))
            clear TJ
            have CE1 := Lib.hid (eq_yes ⟨leaf, K, V, D, high, bnd, ⟨sl, ge⟩⟩ BK BV BD AK AV AD dk dv dd ck cv cd w8 X1.out.2.k X1.out.2.v X1.out.2.d (HI.out _ (HB.out.1.trans T.out)).k (HI.out _ (HB.out.1.trans T.out)).v (HI.out _ (HB.out.1.trans T.out)).d (Nat.le_trans X1.out.2.lk (by decide)) (Nat.le_trans X1.out.2.lv (by decide)) (Nat.le_trans X1.out.2.ld (by decide)))
            have CE2 := Lib.hid fun (W : World) (t : Turn No w8 W) => eq_yes ⟨leaf, K, V, D, high, bnd, ⟨sl, ge⟩⟩ CK CV CD AK AV AD ek ev ed ck cv cd W (X2.out.2.k.no t) (X2.out.2.v.no t) (X2.out.2.d.no t) ((HI.out _ (HB.out.1.trans T.out)).k.no t) ((HI.out _ (HB.out.1.trans T.out)).v.no t) ((HI.out _ (HB.out.1.trans T.out)).d.no t) (Nat.le_trans X2.out.2.lk (by decide)) (Nat.le_trans X2.out.2.lv (by decide)) (Nat.le_trans X2.out.2.ld (by decide))
            simp only at CE1 CE2
            obtain ⟨c0, c1, c2, c3, c4, c5, c6, c7⟩ := at8 (HC.out _ T.out)
            obtain ⟨e0, e1, e2, e3, e4, e5, e6, e7⟩ := at8 X1.out.1
            go_wp2_with (first | (go_at_call 18; (with_reducible refine CE1.out.mono ?_); rintro e w9 ⟨rfl, ht⟩; have T9 := Lib.hid ht; clear ht c0 c1 c2 c3 c4 c5 c6 c7 e0 e1 e2 e3 e4 e5 e6 e7; obtain ⟨c0, c1, c2, c3, c4, c5, c6, c7⟩ := at8 (HC.out _ (T.out.trans T9.out)); obtain ⟨e0, e1, e2, e3, e4, e5, e6, e7⟩ := at8 (X2.out.1.no T9.out)) | (go_at_call 18; (with_reducible refine (CE2.out _ T9.out).mono ?_); rintro e w10 ⟨rfl, ht⟩; have T10 := Lib.hid ht; clear ht c0 c1 c2 c3 c4 c5 c6 c7 e0 e1 e2 e3 e4 e5 e6 e7))
            go_ret
            exact ⟨rfl, HB.out.1.trans ((T.out.trans T9.out).trans T10.out)⟩
end Go.Proofs.Ytengbkopihiiaaa
