/-
  The law BlnodeSplits.
-/
import Derived.Test.YtengbkopihiiaaaRs
import Derived.Test.YtengbkopihiiaaaHp
namespace Go.Proofs.Ytengbkopihiiaaa
open Go.RowKit Go.Lib
set_option linter.unusedVariables false
set_option maxRecDepth 20000
set_option linter.unusedSimpArgs false

set_option maxRecDepth 100000 in
set_option maxHeartbeats 64000000 in
theorem splits_any (n : Nd) (AK AV AD : Option Addr) (ck cv cd : Nat) (nxt : Hn) (w : World) (hin : InN w n AK AV AD) :
    Calls Try.prog 6 #[.agg #[.bool n.leaf, .slice AK n.keys.length ck, .slice AV n.vals.length cv, .slice AD n.kids.length cd, .string n.high, .bool n.bnd, .int .i64 n.nx.slot, .int .u64 n.nx.gen], .agg #[.int .i64 nxt.slot, .int .u64 nxt.gen]] w fun e w' => e = .returned (.bool true) ∧ Turn No w w' := by
  obtain ⟨leaf, K, V, D, high, bnd, ⟨sl, ge⟩⟩ := n
  have CA := Lib.hid fun (W : World) => awake_c W
  have HIn := Lib.hid hin
  have CG := Lib.hid fun (W : World) (t : Turn No w W) => great_any leaf K V.length D.length high bnd sl ge AK AV AD ck cv cd W (HIn.out.k.no t) HIn.out.fk HIn.out.fh HIn.out.lk HIn.out.lv HIn.out.ld
  have HS : Hid (SmallN K V.length D.length high → K.length ≤ 300 ∧ V.length ≤ 300 ∧ D.length ≤ 301 ∧ ∀ W, Turn No w W → In W ⟨leaf, K, V, D, high, bnd, ⟨sl, ge⟩⟩ AK AV AD) := Lib.hid fun hs => ⟨hs.1, hs.2.1, hs.2.2.1, fun W t => ⟨HIn.out.k.no t, HIn.out.v.no t, HIn.out.d.no t, HIn.out.fk, HIn.out.fv, HIn.out.fh, Nat.le_trans hs.1 (by decide), Nat.le_trans hs.2.1 (by decide), Nat.le_trans hs.2.2.1 (by decide)⟩⟩
  have t1 : Turn No w (w.alloc (.cells #[.bool leaf, .slice AK K.length ck, .slice AV V.length cv, .slice AD D.length cd, .string high, .bool bnd, .int .i64 sl, .int .u64 ge] 29)) := (Turn.refl _ _).alloc _
  have t2 : Turn No (w.alloc (.cells #[.bool leaf, .slice AK K.length ck, .slice AV V.length cv, .slice AD D.length cd, .string high, .bool bnd, .int .i64 sl, .int .u64 ge] 29)) ((w.alloc (.cells #[.bool leaf, .slice AK K.length ck, .slice AV V.length cv, .slice AD D.length cd, .string high, .bool bnd, .int .i64 sl, .int .u64 ge] 29)).alloc (.cells #[.int .i64 nxt.slot, .int .u64 nxt.gen] 27)) := (Turn.refl _ _).alloc _
  have a1 := (At.new w (.cells #[.bool leaf, .slice AK K.length ck, .slice AV V.length cv, .slice AD D.length cd, .string high, .bool bnd, .int .i64 sl, .int .u64 ge] 29)).no t2
  have a2 := At.new (w.alloc (.cells #[.bool leaf, .slice AK K.length ck, .slice AV V.length cv, .slice AD D.length cd, .string high, .bool bnd, .int .i64 sl, .int .u64 ge] 29)) (.cells #[.int .i64 nxt.slot, .int .u64 nxt.gen] 27)
  rw [World.size_alloc] at a2
  have HB : Hid (Turn No w ((w.alloc (.cells #[.bool leaf, .slice AK K.length ck, .slice AV V.length cv, .slice AD D.length cd, .string high, .bool bnd, .int .i64 sl, .int .u64 ge] 29)).alloc (.cells #[.int .i64 nxt.slot, .int .u64 nxt.gen] 27)) ∧ At ((w.alloc (.cells #[.bool leaf, .slice AK K.length ck, .slice AV V.length cv, .slice AD D.length cd, .string high, .bool bnd, .int .i64 sl, .int .u64 ge] 29)).alloc (.cells #[.int .i64 nxt.slot, .int .u64 nxt.gen] 27)) w.heap.size (.cells #[.bool leaf, .slice AK K.length ck, .slice AV V.length cv, .slice AD D.length cd, .string high, .bool bnd, .int .i64 sl, .int .u64 ge] 29 (0, 0)) ∧ At ((w.alloc (.cells #[.bool leaf, .slice AK K.length ck, .slice AV V.length cv, .slice AD D.length cd, .string high, .bool bnd, .int .i64 sl, .int .u64 ge] 29)).alloc (.cells #[.int .i64 nxt.slot, .int .u64 nxt.gen] 27)) (w.heap.size + 1) (.cells #[.int .i64 nxt.slot, .int .u64 nxt.gen] 27 (0, 0))) := Lib.hid ⟨t1.trans t2, a1, a2⟩
  clear t1 t2 a1 a2
  have hm1 := HIn.out.lk
  have hm2 := HIn.out.ld
  simp only at hm1 hm2 ⊢
  unfold maxLen at hm1 hm2
  clear hin
  go_enter Try.func6, Try.ntmps6
  go_upto_region 1 with fail
  generalize ((w.alloc (.cells #[.bool leaf, .slice AK K.length ck, .slice AV V.length cv, .slice AD D.length cd, .string high, .bool bnd, .int .i64 sl, .int .u64 ge] 29)).alloc (.cells #[.int .i64 nxt.slot, .int .u64 nxt.gen] 27)) = w1 at HB ⊢
  generalize w.heap.size = g at HB ⊢
  have HC : Hid (∀ W, Turn No w1 W → At W g (.cells #[.bool leaf, .slice AK K.length ck, .slice AV V.length cv, .slice AD D.length cd, .string high, .bool bnd, .int .i64 sl, .int .u64 ge] 29 (0, 0))) := Lib.hid fun W t => HB.out.2.1.no t
  go_wp2_with fail
  (with_reducible refine (CA.out _).mono ?_)
  rintro e w2 ⟨rfl, ht⟩
  have T2 := Lib.hid ht
  clear ht
  go_upto_region 3 with fail
  obtain ⟨c0, c1, c2, c3, c4, c5, c6, c7⟩ := at8 (HC.out w2 T2.out)
  go_wp2_with fail
  (with_reducible refine (CG.out _ (HB.out.1.trans T2.out)).mono ?_)
  rintro e w3 ⟨bb, rfl, hb, ht⟩
  have T3 := Lib.hid (T2.out.trans ht)
  have HBB := Lib.hid hb
  clear ht hb c0 c1 c2 c3 c4 c5 c6 c7 T2 CG CA
  cases bb with
  | true =>
    go_wp2_with fail
    go_ret
    exact ⟨rfl, HB.out.1.trans T3.out⟩
  | false =>
    obtain ⟨k300, v300, d300, hI⟩ := HS.out (HBB.out rfl)
    have HI := Lib.hid hI
    have H300 := Lib.hid (And.intro k300 (And.intro v300 d300))
    clear HS HBB hI k300 v300 d300
    obtain ⟨c0, c1, c2, c3, c4, c5, c6, c7⟩ := at8 (HC.out w3 T3.out)
    go_upto_region 5 with fail
    have T15 := Lib.hid T3.out
    clear T3
    have C := Lib.hid (copied_any leaf K V D high bnd sl ge AK AV AD ck cv cd w3 (HI.out _ (HB.out.1.trans T15.out)).k (HI.out _ (HB.out.1.trans T15.out)).v (HI.out _ (HB.out.1.trans T15.out)).d (Nat.le_trans (HI.out _ (HB.out.1.trans T15.out)).lk (by decide)) (Nat.le_trans (HI.out _ (HB.out.1.trans T15.out)).lv (by decide)) (Nat.le_trans (HI.out _ (HB.out.1.trans T15.out)).ld (by decide)))
    go_upto_region 6 with (go_at_call 29; (with_reducible refine C.out.mono ?_); rintro e w4 ⟨O1, o1, O2, o2, O3, o3, rfl, ho, ht⟩; have HJ := Lib.hid (And.intro ho ht); clear ho ht c0 c1 c2 c3 c4 c5 c6 c7)
    have XO := Lib.hid (And.intro (At.new w4 (.cells #[.bool leaf, .slice O1 K.length o1, .slice O2 V.length o2, .slice O3 D.length o3, .string high, .bool bnd, .int .i64 sl, .int .u64 ge] 29)) (HJ.out.1.no ((Turn.refl No w4).alloc (.cells #[.bool leaf, .slice O1 K.length o1, .slice O2 V.length o2, .slice O3 D.length o3, .string high, .bool bnd, .int .i64 sl, .int .u64 ge] 29))))
    have TJ := Lib.hid (HJ.out.2.alloc (.cells #[.bool leaf, .slice O1 K.length o1, .slice O2 V.length o2, .slice O3 D.length o3, .string high, .bool bnd, .int .i64 sl, .int .u64 ge] 29))
    clear HJ C
    generalize (w4.alloc (.cells #[.bool leaf, .slice O1 K.length o1, .slice O2 V.length o2, .slice O3 D.length o3, .string high, .bool bnd, .int .i64 sl, .int .u64 ge] 29)) = w5 at XO TJ ⊢
    obtain ⟨r5, hr⟩ : ∃ q, w4.heap.size = q := ⟨_, rfl⟩
    rw [hr] at XO
    rw [hr]
    clear hr
    replace T15 := Lib.hid (T15.out.trans TJ.out)
    clear TJ
    have IO := Lib.hid (in_own (n := ⟨leaf, K, V, D, high, bnd, ⟨sl, ge⟩⟩) (HI.out _ (HB.out.1.trans T15.out)) XO.out.2)
    replace XO := Lib.hid XO.out.1
    by_cases hso : SplO ⟨leaf, K, V, D, high, bnd, ⟨sl, ge⟩⟩
    · skip
      have hk2 : 2 ≤ K.length := by
        cases leaf with
        | true => exact hso.2.1 rfl
        | false => exact Nat.le_trans (by decide) (hso.2.2 rfl)
      have hR : NdRight ⟨leaf, K, V, D, high, bnd, ⟨sl, ge⟩⟩ := hso.1
      obtain ⟨M, hM⟩ : ∃ x, K.length / 2 = x := ⟨_, rfl⟩
      have hMl : M < K.length := by omega
      have hM1 : 1 ≤ M := by omega
      obtain ⟨sep, hsep⟩ : ∃ x, K[M]? = some x := ⟨K[M], List.getElem?_eq_getElem hMl⟩
      cases leaf with
      | true =>
        have hD : D = [] := List.eq_nil_of_length_eq_zero (hR.2.2.2.1 rfl).2
        have hVK : V.length = K.length := (hR.2.2.2.1 rfl).1
        obtain ⟨KL, hKL⟩ : ∃ x, K.take M = x := ⟨_, rfl⟩
        obtain ⟨VL, hVL⟩ : ∃ x, V.take M = x := ⟨_, rfl⟩
        obtain ⟨KR, hKR⟩ : ∃ x, K.drop M = x := ⟨_, rfl⟩
        obtain ⟨VR, hVR⟩ : ∃ x, V.drop M = x := ⟨_, rfl⟩
        have lKL : KL.length = M := by rw [← hKL, List.length_take]; omega
        have lVL : VL.length = M := by rw [← hVL, List.length_take]; omega
        have lKR : KR.length = K.length - M := by rw [← hKR, List.length_drop]
        have lVR : VR.length = V.length - M := by rw [← hVR, List.length_drop]
        have LL := Lib.hid (And.intro lKL (And.intro lVL (And.intro lKR lVR)))
        have EQ := Lib.hid (And.intro hKL (And.intro hVL (And.intro hKR hVR)))
        have HVD := Lib.hid (And.intro hD hVK)
        have C := split_h o1 o2 o3 nxt IO.out hso (KL := KL) (VL := VL) (KR := KR) (VR := VR) (DL := D) (DR := D) (by rw [hM]; exact hsep) (by rw [splL_leaf hM hsep, hKL, hVL, hD]) (by rw [splR_leaf hM, hKR, hVR, hD])
        rw [lKL, lVL, lKR, lVR] at C
        have C := Lib.hid C
        clear hD hKL hVL hKR hVR lKL lVL lKR lVR
        have HR := Lib.hid hR
        have HM := Lib.hid (And.intro hM (And.intro hMl (And.intro hM1 hsep)))
        have HK2 := Lib.hid hk2
        clear hR hso hVK hM hMl hM1 hsep hk2
        obtain ⟨c0, c1, c2, c3, c4, c5, c6, c7⟩ := at8 XO.out
        obtain ⟨k0, k1⟩ := at2 (HB.out.2.2.no T15.out)
        go_upto_region 7 with (go_at_call 17; (with_reducible refine C.out.mono ?_); rintro e w6 ⟨A1, A2, A3, B1, d1, B2, d2, B3, d3, rfl, hg, hg2, ht⟩; have HJ := Lib.hid (And.intro hg (And.intro hg2 ht)); clear hg hg2 ht c0 c1 c2 c3 c4 c5 c6 c7 k0 k1)
        clear C
        have HZ6 := Lib.hid HJ.out.2.2.size
        have ta : Turn No w6 (w6.alloc (.cells #[.bool true, .slice A1 M M, .slice A2 M M, .slice A3 D.length D.length, .string sep, .bool true, .int .i64 nxt.slot, .int .u64 nxt.gen] 29)) := (Turn.refl _ _).alloc _
        have tb : Turn No (w6.alloc (.cells #[.bool true, .slice A1 M M, .slice A2 M M, .slice A3 D.length D.length, .string sep, .bool true, .int .i64 nxt.slot, .int .u64 nxt.gen] 29)) ((w6.alloc (.cells #[.bool true, .slice A1 M M, .slice A2 M M, .slice A3 D.length D.length, .string sep, .bool true, .int .i64 nxt.slot, .int .u64 nxt.gen] 29)).alloc (.cells #[.bool true, .slice B1 (K.length - M) d1, .slice B2 (V.length - M) d2, .slice B3 D.length d3, .string high, .bool bnd, .int .i64 sl, .int .u64 ge] 29)) := (Turn.refl _ _).alloc _
        have aR := At.new (w6.alloc (.cells #[.bool true, .slice A1 M M, .slice A2 M M, .slice A3 D.length D.length, .string sep, .bool true, .int .i64 nxt.slot, .int .u64 nxt.gen] 29)) (.cells #[.bool true, .slice B1 (K.length - M) d1, .slice B2 (V.length - M) d2, .slice B3 D.length d3, .string high, .bool bnd, .int .i64 sl, .int .u64 ge] 29)
        rw [World.size_alloc] at aR
        have XA := Lib.hid (And.intro ((At.new w6 (.cells #[.bool true, .slice A1 M M, .slice A2 M M, .slice A3 D.length D.length, .string sep, .bool true, .int .i64 nxt.slot, .int .u64 nxt.gen] 29)).no tb) ((HJ.out.1.no ta).no tb))
        have XB := Lib.hid (And.intro aR ((HJ.out.2.1.no ta).no tb))
        have TJ := Lib.hid ((HJ.out.2.2.trans ta).trans tb)
        clear ta tb aR
        generalize ((w6.alloc (.cells #[.bool true, .slice A1 M M, .slice A2 M M, .slice A3 D.length D.length, .string sep, .bool true, .int .i64 nxt.slot, .int .u64 nxt.gen] 29)).alloc (.cells #[.bool true, .slice B1 (K.length - M) d1, .slice B2 (V.length - M) d2, .slice B3 D.length d3, .string high, .bool bnd, .int .i64 sl, .int .u64 ge] 29)) = w7 at XA XB TJ ⊢
        obtain ⟨r6, hr⟩ : ∃ q, w6.heap.size = q := ⟨_, rfl⟩
        rw [hr] at XA XB
        rw [hr]
        rw [hr] at HZ6
        clear hr
        have T5 := Lib.hid TJ.out
        clear HJ TJ
        have c1 := (HC.out _ (T15.out.trans T5.out)).cell 1
        simp at c1
        go_upto_region 8 with fail
        clear c1
        obtain ⟨c0, c1, c2, c3, c4, c5, c6, c7⟩ := at8 (HC.out _ (T15.out.trans T5.out))
        have C := Lib.hid (lright_yes ⟨true, K, V, D, high, bnd, ⟨sl, ge⟩⟩ AK AV AD ck cv cd w7 (HI.out _ (HB.out.1.trans (T15.out.trans T5.out))) HR.out)
        simp only at C
        have q2 : ¬ (K.length : Int) < 2 := by have := HK2.out; omega
        go_upto_region 10 with (go_at_call 22; (with_reducible refine C.out.mono ?_); rintro e w8 ⟨rfl, ht⟩; have TJ := Lib.hid ht; clear ht c0 c1 c2 c3 c4 c5 c6 c7; have c0 := (HC.out _ (T15.out.trans (T5.out.trans TJ.out))).cell 0; simp at c0)
        clear C q2 c0
        replace T5 := Lib.hid (T5.out.trans TJ.out)
        replace XA := Lib.hid (And.intro (XA.out.1.no TJ.out) (XA.out.2.no TJ.out))
        replace XB := Lib.hid (And.intro (XB.out.1.no TJ.out) (XB.out.2.no TJ.out))
        clear TJ
        go_upto_region 11 with fail
        rw [show ((K.length : Int) / 2) = (M : Int) by have := HM.out.1; omega]
        have hA := HC.out _ (T15.out.trans T5.out)
        have hC : ∀ W, Turn No w8 W → Calls Try.prog 29 #[.agg #[.bool true, .slice AK K.length ck, .slice AV V.length cv, .slice AD D.length cd, .string high, .bool bnd, .int .i64 sl, .int .u64 ge]] W fun e w' => CopyRes true K V D high bnd sl ge W e w' := fun W t => copied_any true K V D high bnd sl ge AK AV AD ck cv cd W (HI.out _ (HB.out.1.trans (T15.out.trans (T5.out.trans t)))).k (HI.out _ (HB.out.1.trans (T15.out.trans (T5.out.trans t)))).v (HI.out _ (HB.out.1.trans (T15.out.trans (T5.out.trans t)))).d (Nat.le_trans (HI.out _ (HB.out.1.trans (T15.out.trans (T5.out.trans t)))).lk (by decide)) (Nat.le_trans (HI.out _ (HB.out.1.trans (T15.out.trans (T5.out.trans t)))).lv (by decide)) (Nat.le_trans (HI.out _ (HB.out.1.trans (T15.out.trans (T5.out.trans t)))).ld (by decide))
        go_cut [11, 12] from 59 to 62 (fun s u wx => ∃ r11 r12 X1 x1 X2 x2 X3 x3 Y1 y1 Y2 y2 Y3 y3, s = .pointer (some ⟨r11, 0, none⟩) ∧ u = .pointer (some ⟨r12, 0, none⟩) ∧ Hid (Turn No w8 wx ∧ (w8.heap.size ≤ r11 ∧ w8.heap.size ≤ r12 ∧ r11 ≠ r12) ∧ (At wx r11 (.cells #[.bool true, .slice X1 K.length x1, .slice X2 V.length x2, .slice X3 D.length x3, .string high, .bool bnd, .int .i64 sl, .int .u64 ge] 29 (0, 0)) ∧ Own w8.heap.size wx K V D X1 x1 X2 x2 X3 x3) ∧ At wx r12 (.cells #[.bool true, .slice Y1 K.length y1, .slice Y2 V.length y2, .slice Y3 D.length y3, .string high, .bool bnd, .int .i64 sl, .int .u64 ge] 29 (0, 0)) ∧ Own w8.heap.size wx K V D Y1 y1 Y2 y2 Y3 y3))
        case first =>
          refine two_copies (by rfl) (by rfl) hA hC ?_
          intro v59 v60 v61 v62 r11 r12 X1 x1 X2 x2 X3 x3 Y1 y1 Y2 y2 Y3 y3 w9 t h3 k3 ho ho2 z1 z2 hne
          have HE := Lib.hid (And.intro t (And.intro (And.intro z1 (And.intro z2 hne)) (And.intro (And.intro h3 ho) (And.intro k3 ho2))))
          clear t h3 k3 ho ho2 z1 z2 hne
          simp only [puts]
          go_wp2_with fail
          go_meet
          exact ⟨r11, r12, X1, x1, X2, x2, X3, x3, Y1, y1, Y2, y2, Y3, y3, rfl, rfl, HE⟩
        obtain ⟨r11, r12, X1, x1, X2, x2, X3, x3, Y1, y1, Y2, y2, Y3, y3, rfl, rfl, HE⟩ := hcut
        generalize wc = w9 at HE ⊢
        clear hA hC
        have T8 := Lib.hid HE.out.1
        have HZ := Lib.hid HE.out.2.1
        have HX := Lib.hid HE.out.2.2.1
        have HY := Lib.hid HE.out.2.2.2
        clear HE
        obtain ⟨gx, rfl, _, _, _, _⟩ := own_some HX.out.2.k (by have := HM.out.2.1; omega)
        obtain ⟨gy, rfl, _, _, _, _⟩ := own_some HY.out.2.k (by have := HM.out.2.1; omega)
        obtain ⟨hx, rfl, _, _, _, _⟩ := own_some HX.out.2.v (by have := HM.out.2.1; have := HVD.out.2; omega)
        obtain ⟨hy, rfl, _, _, _, _⟩ := own_some HY.out.2.v (by have := HM.out.2.1; have := HVD.out.2; omega)
        have hc1 := own_capN HX.out.2.k
        have hc2 := own_capM HX.out.2.k
        unfold maxLen at hc2
        have q0 : (0 : Int) ≤ (M : Int) := by omega
        have q1 : (M : Int) ≤ (x1 : Int) := by have := HM.out.2.1; have := H300.out.1; have := H300.out.2.1; have := H300.out.2.2; omega
        have q2 : M ≤ x1 := by have := HM.out.2.1; have := H300.out.1; have := H300.out.2.1; have := H300.out.2.2; omega
        have q3 : True := True.intro
        have e1 := HX.out.1.cell 1
        have z1 := HX.out.1.thawed 1
        simp at e1
        clear hc1 hc2
        go_upto_region 13 with fail
        clear q0 q1 q2 q3 e1 z1
        have tw := Turn.set1 w9 r11 1 (.slice (some ⟨gx, 0, none⟩) M x1)
        replace HY := Lib.hid (And.intro (HY.out.1.turn tw (fun e => HZ.out.2.2 e.symm)) (HY.out.2.wr HX.out.1 tw))
        have hq : At (w9.setCell ⟨r11, 1, none⟩ (.slice (some ⟨gx, 0, none⟩) M x1)) r11 (.cells #[.bool true, .slice (some ⟨gx, 0, none⟩) M x1, .slice (some ⟨hx, 0, none⟩) V.length x2, .slice X3 D.length x3, .string high, .bool bnd, .int .i64 sl, .int .u64 ge] 29 (0, 0)) := by simpa using HX.out.1.set 1 (.slice (some ⟨gx, 0, none⟩) M x1)
        replace HX := Lib.hid (And.intro hq (HX.out.2.wr HX.out.1 tw))
        replace T8 := Lib.hid (st1 (r := r11) (i := 1) (u := (.slice (some ⟨gx, 0, none⟩) M x1)) T8.out HZ.out.1)
        clear tw hq
        generalize (w9.setCell ⟨r11, 1, none⟩ (.slice (some ⟨gx, 0, none⟩) M x1)) = w10 at HX HY T8 ⊢
        have c0 := (HC.out _ (T15.out.trans (T5.out.trans T8.out))).cell 0
        simp at c0
        go_upto_region 14 with fail
        clear c0
        have hc1 := own_capN HX.out.2.v
        have hc2 := own_capM HX.out.2.v
        unfold maxLen at hc2
        have q0 : (0 : Int) ≤ (M : Int) := by omega
        have q1 : (M : Int) ≤ (x2 : Int) := by have := HM.out.2.1; have := HVD.out.2; have := H300.out.1; have := H300.out.2.1; have := H300.out.2.2; omega
        have q2 : M ≤ x2 := by have := HM.out.2.1; have := HVD.out.2; have := H300.out.1; have := H300.out.2.1; have := H300.out.2.2; omega
        have q3 : True := True.intro
        have e1 := HX.out.1.cell 2
        have z1 := HX.out.1.thawed 2
        simp at e1
        clear hc1 hc2
        go_upto_region 15 with fail
        clear q0 q1 q2 q3 e1 z1
        have tw := Turn.set1 w10 r11 2 (.slice (some ⟨hx, 0, none⟩) M x2)
        replace HY := Lib.hid (And.intro (HY.out.1.turn tw (fun e => HZ.out.2.2 e.symm)) (HY.out.2.wr HX.out.1 tw))
        have hq : At (w10.setCell ⟨r11, 2, none⟩ (.slice (some ⟨hx, 0, none⟩) M x2)) r11 (.cells #[.bool true, .slice (some ⟨gx, 0, none⟩) M x1, .slice (some ⟨hx, 0, none⟩) M x2, .slice X3 D.length x3, .string high, .bool bnd, .int .i64 sl, .int .u64 ge] 29 (0, 0)) := by simpa using HX.out.1.set 2 (.slice (some ⟨hx, 0, none⟩) M x2)
        replace HX := Lib.hid (And.intro hq (HX.out.2.wr HX.out.1 tw))
        replace T8 := Lib.hid (st1 (r := r11) (i := 2) (u := (.slice (some ⟨hx, 0, none⟩) M x2)) T8.out HZ.out.1)
        clear tw hq
        generalize (w10.setCell ⟨r11, 2, none⟩ (.slice (some ⟨hx, 0, none⟩) M x2)) = w11 at HX HY T8 ⊢
        have hc1 := own_capN HY.out.2.k
        have hc2 := own_capM HY.out.2.k
        unfold maxLen at hc2
        have q0 : (0 : Int) ≤ (M : Int) := by omega
        have q1 : (M : Int) ≤ (K.length : Int) := by have := HM.out.2.1; have := H300.out.1; have := H300.out.2.1; have := H300.out.2.2; omega
        have q2 : (K.length : Int) ≤ (y1 : Int) := by omega
        have q3 : M ≤ y1 := by have := HM.out.2.1; have := H300.out.1; have := H300.out.2.1; have := H300.out.2.2; omega
        have q4 : ¬ y1 = M := by have := HM.out.2.1; have := H300.out.1; have := H300.out.2.1; have := H300.out.2.2; omega
        have q5 : ¬ y1 - M = 0 := by have := HM.out.2.1; have := H300.out.1; have := H300.out.2.1; have := H300.out.2.2; omega
        have q6 : M ≤ K.length := by have := HM.out.2.1; have := H300.out.1; have := H300.out.2.1; have := H300.out.2.2; omega
        have q7 : ¬ K.length = M := by have := HM.out.2.1; have := H300.out.1; have := H300.out.2.1; have := H300.out.2.2; omega
        have e1 := HY.out.1.cell 1
        have z1 := HY.out.1.thawed 1
        simp at e1
        clear hc1 hc2
        go_upto_region 16 with fail
        clear q0 q1 q2 q3 q4 q5 q6 q7 e1 z1
        have tw := Turn.set1 w11 r12 1 (.slice (some ⟨gy, M, none⟩) (K.length - M) (y1 - M))
        replace HX := Lib.hid (And.intro (HX.out.1.turn tw HZ.out.2.2) (HX.out.2.wr HY.out.1 tw))
        have hq : At (w11.setCell ⟨r12, 1, none⟩ (.slice (some ⟨gy, M, none⟩) (K.length - M) (y1 - M))) r12 (.cells #[.bool true, .slice (some ⟨gy, M, none⟩) (K.length - M) (y1 - M), .slice (some ⟨hy, 0, none⟩) V.length y2, .slice Y3 D.length y3, .string high, .bool bnd, .int .i64 sl, .int .u64 ge] 29 (0, 0)) := by simpa using HY.out.1.set 1 (.slice (some ⟨gy, M, none⟩) (K.length - M) (y1 - M))
        replace HY := Lib.hid (And.intro hq (HY.out.2.wr HY.out.1 tw))
        replace T8 := Lib.hid (st1 (r := r12) (i := 1) (u := (.slice (some ⟨gy, M, none⟩) (K.length - M) (y1 - M))) T8.out HZ.out.2.1)
        clear tw hq
        generalize (w11.setCell ⟨r12, 1, none⟩ (.slice (some ⟨gy, M, none⟩) (K.length - M) (y1 - M))) = w12 at HX HY T8 ⊢
        have hc1 := own_capN HY.out.2.v
        have hc2 := own_capM HY.out.2.v
        unfold maxLen at hc2
        have q0 : (0 : Int) ≤ (M : Int) := by omega
        have q1 : (M : Int) ≤ (V.length : Int) := by have := HM.out.2.1; have := HVD.out.2; have := H300.out.1; have := H300.out.2.1; have := H300.out.2.2; omega
        have q2 : (V.length : Int) ≤ (y2 : Int) := by omega
        have q3 : M ≤ y2 := by have := HM.out.2.1; have := HVD.out.2; have := H300.out.1; have := H300.out.2.1; have := H300.out.2.2; omega
        have q4 : ¬ y2 = M := by have := HM.out.2.1; have := HVD.out.2; have := H300.out.1; have := H300.out.2.1; have := H300.out.2.2; omega
        have q5 : ¬ y2 - M = 0 := by have := HM.out.2.1; have := HVD.out.2; have := H300.out.1; have := H300.out.2.1; have := H300.out.2.2; omega
        have q6 : M ≤ V.length := by have := HM.out.2.1; have := HVD.out.2; have := H300.out.1; have := H300.out.2.1; have := H300.out.2.2; omega
        have q7 : ¬ V.length = M := by have := HM.out.2.1; have := HVD.out.2; have := H300.out.1; have := H300.out.2.1; have := H300.out.2.2; omega
        have e1 := HY.out.1.cell 2
        have z1 := HY.out.1.thawed 2
        simp at e1
        clear hc1 hc2
        go_upto_region 20 with fail
        clear q0 q1 q2 q3 q4 q5 q6 q7 e1 z1
        have tw := Turn.set1 w12 r12 2 (.slice (some ⟨hy, M, none⟩) (V.length - M) (y2 - M))
        replace HX := Lib.hid (And.intro (HX.out.1.turn tw HZ.out.2.2) (HX.out.2.wr HY.out.1 tw))
        have hq : At (w12.setCell ⟨r12, 2, none⟩ (.slice (some ⟨hy, M, none⟩) (V.length - M) (y2 - M))) r12 (.cells #[.bool true, .slice (some ⟨gy, M, none⟩) (K.length - M) (y1 - M), .slice (some ⟨hy, M, none⟩) (V.length - M) (y2 - M), .slice Y3 D.length y3, .string high, .bool bnd, .int .i64 sl, .int .u64 ge] 29 (0, 0)) := by simpa using HY.out.1.set 2 (.slice (some ⟨hy, M, none⟩) (V.length - M) (y2 - M))
        replace HY := Lib.hid (And.intro hq (HY.out.2.wr HY.out.1 tw))
        replace T8 := Lib.hid (st1 (r := r12) (i := 2) (u := (.slice (some ⟨hy, M, none⟩) (V.length - M) (y2 - M))) T8.out HZ.out.2.1)
        clear tw hq
        generalize (w12.setCell ⟨r12, 2, none⟩ (.slice (some ⟨hy, M, none⟩) (V.length - M) (y2 - M))) = w13 at HX HY T8 ⊢
        obtain ⟨ab, ao, hAK, hc⟩ := kcs_hold (HI.out _ (HB.out.1.trans (T15.out.trans (T5.out.trans T8.out)))).k HM.out.2.2.2
        have HK0 := Lib.hid hc
        clear hc
        have HAK := Lib.hid hAK
        clear hAK
        have x0 := HK0.out _ (Turn.refl _ _)
        have c1 := (HC.out _ (T15.out.trans (T5.out.trans T8.out))).cell 1
        simp at c1
        rw [HAK.out] at c1
        have q1 : (0 : Int) ≤ (M : Int) := by omega
        have q2 : (M : Int) < (K.length : Int) := by have := HM.out.2.1; omega
        have e4 := HX.out.1.cell 4
        have z4 := HX.out.1.thawed 4
        simp at e4
        clear HK0
        go_upto_region 21 with fail
        clear x0 c1 e4 z4
        have tw := Turn.set1 w13 r11 4 (.string sep)
        replace HY := Lib.hid (And.intro (HY.out.1.turn tw (fun e => HZ.out.2.2 e.symm)) (HY.out.2.wr HX.out.1 tw))
        have hq : At (w13.setCell ⟨r11, 4, none⟩ (.string sep)) r11 (.cells #[.bool true, .slice (some ⟨gx, 0, none⟩) M x1, .slice (some ⟨hx, 0, none⟩) M x2, .slice X3 D.length x3, .string sep, .bool bnd, .int .i64 sl, .int .u64 ge] 29 (0, 0)) := by simpa using HX.out.1.set 4 (.string sep)
        replace HX := Lib.hid (And.intro hq (HX.out.2.wr HX.out.1 tw))
        replace T8 := Lib.hid (st1 (r := r11) (i := 4) (u := (.string sep)) T8.out HZ.out.1)
        clear tw hq
        generalize (w13.setCell ⟨r11, 4, none⟩ (.string sep)) = w14 at HX HY T8 ⊢
        have e5 := HX.out.1.cell 5
        have z5 := HX.out.1.thawed 5
        simp at e5
        go_upto_region 22 with fail
        clear e5 z5
        have tw := Turn.set1 w14 r11 5 (.bool true)
        replace HY := Lib.hid (And.intro (HY.out.1.turn tw (fun e => HZ.out.2.2 e.symm)) (HY.out.2.wr HX.out.1 tw))
        have hq : At (w14.setCell ⟨r11, 5, none⟩ (.bool true)) r11 (.cells #[.bool true, .slice (some ⟨gx, 0, none⟩) M x1, .slice (some ⟨hx, 0, none⟩) M x2, .slice X3 D.length x3, .string sep, .bool true, .int .i64 sl, .int .u64 ge] 29 (0, 0)) := by simpa using HX.out.1.set 5 (.bool true)
        replace HX := Lib.hid (And.intro hq (HX.out.2.wr HX.out.1 tw))
        replace T8 := Lib.hid (st1 (r := r11) (i := 5) (u := (.bool true)) T8.out HZ.out.1)
        clear tw hq
        generalize (w14.setCell ⟨r11, 5, none⟩ (.bool true)) = w15 at HX HY T8 ⊢
        have e6 := HX.out.1.cell 6
        have z6 := HX.out.1.thawed 6
        have e7 := HX.out.1.cell 7
        have z7 := HX.out.1.thawed 7
        obtain ⟨k0, k1⟩ := at2 (HB.out.2.2.no (T15.out.trans (T5.out.trans T8.out)))
        simp at e6 e7
        go_upto_region 23 with fail
        clear e6 z6 e7 z7 k0 k1
        have tw := Turn.set1 w15 r11 6 (.int .i64 nxt.slot)
        replace HY := Lib.hid (And.intro (HY.out.1.turn tw (fun e => HZ.out.2.2 e.symm)) (HY.out.2.wr HX.out.1 tw))
        have hq : At (w15.setCell ⟨r11, 6, none⟩ (.int .i64 nxt.slot)) r11 (.cells #[.bool true, .slice (some ⟨gx, 0, none⟩) M x1, .slice (some ⟨hx, 0, none⟩) M x2, .slice X3 D.length x3, .string sep, .bool true, .int .i64 nxt.slot, .int .u64 ge] 29 (0, 0)) := by simpa using HX.out.1.set 6 (.int .i64 nxt.slot)
        replace HX := Lib.hid (And.intro hq (HX.out.2.wr HX.out.1 tw))
        replace T8 := Lib.hid (st1 (r := r11) (i := 6) (u := (.int .i64 nxt.slot)) T8.out HZ.out.1)
        clear tw hq
        have tw := Turn.set1 (w15.setCell ⟨r11, 6, none⟩ (.int .i64 nxt.slot)) r11 7 (.int .u64 nxt.gen)
        replace HY := Lib.hid (And.intro (HY.out.1.turn tw (fun e => HZ.out.2.2 e.symm)) (HY.out.2.wr HX.out.1 tw))
        have hq : At ((w15.setCell ⟨r11, 6, none⟩ (.int .i64 nxt.slot)).setCell ⟨r11, 7, none⟩ (.int .u64 nxt.gen)) r11 (.cells #[.bool true, .slice (some ⟨gx, 0, none⟩) M x1, .slice (some ⟨hx, 0, none⟩) M x2, .slice X3 D.length x3, .string sep, .bool true, .int .i64 nxt.slot, .int .u64 nxt.gen] 29 (0, 0)) := by simpa using HX.out.1.set 7 (.int .u64 nxt.gen)
        replace HX := Lib.hid (And.intro hq (HX.out.2.wr HX.out.1 tw))
        replace T8 := Lib.hid (st1 (r := r11) (i := 7) (u := (.int .u64 nxt.gen)) T8.out HZ.out.1)
        clear tw hq
        generalize ((w15.setCell ⟨r11, 6, none⟩ (.int .i64 nxt.slot)).setCell ⟨r11, 7, none⟩ (.int .u64 nxt.gen)) = w16 at HX HY T8 ⊢
        have CE1 := eq_yes ⟨true, KL, VL, D, sep, true, nxt⟩ A1 A2 A3 (some ⟨gx, 0, none⟩) (some ⟨hx, 0, none⟩) X3 KL.length VL.length D.length x1 x2 x3 w16 (XA.out.2.k.no T8.out) (XA.out.2.v.no T8.out) (XA.out.2.d.no T8.out) (rowK_take HX.out.2.k EQ.out.1) (rowK_take HX.out.2.v EQ.out.2.1) (row_of_own HX.out.2.d) (by have := H300.out.1; have := H300.out.2.1; have := H300.out.2.2; have := HM.out.2.1; simp only [LL.out.1, LL.out.2.1, LL.out.2.2.1, LL.out.2.2.2]; omega) (by have := H300.out.1; have := H300.out.2.1; have := H300.out.2.2; have := HM.out.2.1; simp only [LL.out.1, LL.out.2.1, LL.out.2.2.1, LL.out.2.2.2]; omega) (by have := H300.out.1; have := H300.out.2.1; have := H300.out.2.2; have := HM.out.2.1; simp only [LL.out.1, LL.out.2.1, LL.out.2.2.1, LL.out.2.2.2]; omega)
        have CE2 := Lib.hid fun (W : World) (t : Turn No w16 W) => eq_yes ⟨true, KR, VR, D, high, bnd, ⟨sl, ge⟩⟩ B1 B2 B3 (some ⟨gy, M, none⟩) (some ⟨hy, M, none⟩) Y3 d1 d2 d3 (y1 - M) (y2 - M) y3 W (XB.out.2.k.no (T8.out.trans t)) (XB.out.2.v.no (T8.out.trans t)) (XB.out.2.d.no (T8.out.trans t)) (rowK_drop (HY.out.2.no t).k EQ.out.2.2.1) (rowK_drop (HY.out.2.no t).v EQ.out.2.2.2) (row_of_own (HY.out.2.no t).d) (by have := H300.out.1; have := H300.out.2.1; have := H300.out.2.2; have := HM.out.2.1; simp only [LL.out.1, LL.out.2.1, LL.out.2.2.1, LL.out.2.2.2]; omega) (by have := H300.out.1; have := H300.out.2.1; have := H300.out.2.2; have := HM.out.2.1; simp only [LL.out.1, LL.out.2.1, LL.out.2.2.1, LL.out.2.2.2]; omega) (by have := H300.out.1; have := H300.out.2.1; have := H300.out.2.2; have := HM.out.2.1; simp only [LL.out.1, LL.out.2.1, LL.out.2.2.1, LL.out.2.2.2]; omega)
        simp only [LL.out.1, LL.out.2.1, LL.out.2.2.1, LL.out.2.2.2] at CE1 CE2
        have CE1 := Lib.hid CE1
        have qe := bytes_beq sep sep
        rw [decide_eq_true rfl] at qe
        have x0 := (kcs_hold (HI.out _ (HB.out.1.trans (T15.out.trans (T5.out.trans T8.out)))).k HM.out.2.2.2)
        obtain ⟨ab2, ao2, hAK2, hc⟩ := x0
        rw [HAK.out] at hAK2
        injection hAK2 with hAK2
        injection hAK2 with e1 e2
        subst e1 e2
        have x0 := hc _ (Turn.refl _ _)
        clear hc
        have c1 := (HC.out _ (T15.out.trans (T5.out.trans T8.out))).cell 1
        simp at c1
        rw [HAK.out] at c1
        have q1 : (0 : Int) ≤ (M : Int) := by omega
        have q2 : (M : Int) < (K.length : Int) := by have := HM.out.2.1; omega
        obtain ⟨e0, e1, e2, e3, e4, e5, e6, e7⟩ := at8 (XA.out.1.no T8.out)
        obtain ⟨f0, f1, f2, f3, f4, f5, f6, f7⟩ := at8 HX.out.1
        go_upto_region 25 with (first | (go_at_call 18; (with_reducible refine CE1.out.mono ?_); rintro e w30 ⟨rfl, ht⟩; have T30 := Lib.hid ht; clear ht e0 e1 e2 e3 e4 e5 e6 e7 f0 f1 f2 f3 f4 f5 f6 f7; obtain ⟨e0, e1, e2, e3, e4, e5, e6, e7⟩ := at8 ((XB.out.1.no T8.out).no T30.out); obtain ⟨f0, f1, f2, f3, f4, f5, f6, f7⟩ := at8 (HY.out.1.no T30.out)) | (go_at_call 18; (with_reducible refine (CE2.out _ T30.out).mono ?_); rintro e w31 ⟨rfl, ht⟩; have TJ := Lib.hid ((T8.out.trans T30.out).trans ht); have TY := Lib.hid (T30.out.trans ht); clear ht e0 e1 e2 e3 e4 e5 e6 e7 f0 f1 f2 f3 f4 f5 f6 f7))
        clear CE1 CE2 qe x0 c1 q1 q2 HX T30
        have HNE : Hid (r12 ≠ r6 ∧ r6 + 1 ≠ r6) := Lib.hid ⟨fun e => by have := HZ.out.2.1; have := XA.out.1.lt; omega, by omega⟩
        replace XA := Lib.hid (And.intro (XA.out.1.no TJ.out) (XA.out.2.no TJ.out))
        replace XB := Lib.hid (And.intro (XB.out.1.no TJ.out) (XB.out.2.no TJ.out))
        replace HY := Lib.hid (And.intro (HY.out.1.no TY.out) (HY.out.2.no TY.out))
        replace T5 := Lib.hid (T5.out.trans TJ.out)
        clear TJ TY T8 HZ
        generalize w31 = wa at XA XB HY T5 ⊢
        have TA : Hid (Turn (fun k => k = r6) wa wa) := Lib.hid (Turn.refl _ _)
        have XC := Lib.hid XA.out.1
        have CEB := Lib.hid fun (W : World) (t : Turn (fun k => k = r6) wa W) => eq_yes ⟨true, KR, VR, D, high, bnd, ⟨sl, ge⟩⟩ B1 B2 B3 (some ⟨gy, M, none⟩) (some ⟨hy, M, none⟩) Y3 d1 d2 d3 (y1 - M) (y2 - M) y3 W (XB.out.2.keep XA.out.1 t).k (XB.out.2.keep XA.out.1 t).v (XB.out.2.keep XA.out.1 t).d (rowK_drop (HY.out.2.wr XA.out.1 t).k EQ.out.2.2.1) (rowK_drop (HY.out.2.wr XA.out.1 t).v EQ.out.2.2.2) (row_of_own (HY.out.2.wr XA.out.1 t).d) (by have := H300.out.1; have := H300.out.2.1; have := H300.out.2.2; have := HM.out.2.1; simp only [LL.out.1, LL.out.2.1, LL.out.2.2.1, LL.out.2.2.2]; omega) (by have := H300.out.1; have := H300.out.2.1; have := H300.out.2.2; have := HM.out.2.1; simp only [LL.out.1, LL.out.2.1, LL.out.2.2.1, LL.out.2.2.2]; omega) (by have := H300.out.1; have := H300.out.2.1; have := H300.out.2.2; have := HM.out.2.1; simp only [LL.out.1, LL.out.2.1, LL.out.2.2.1, LL.out.2.2.2]; omega)
        simp only [LL.out.1, LL.out.2.1, LL.out.2.2.1, LL.out.2.2.2] at CEB
        have HBY := Lib.hid fun (W : World) (t : Turn (fun k => k = r6) wa W) => And.intro (XB.out.1.turn t HNE.out.2) (HY.out.1.turn t HNE.out.1)
        obtain ⟨E1, u1, wb1, q, ho, ht⟩ := app_fullK (K := KL) (XA.out.2.keep XA.out.1 TA.out).k (by have := H300.out.1; have := H300.out.2.1; have := H300.out.2.2; have := HM.out.2.1; have := LL.out.1; have := LL.out.2.1; omega) ⟨#[109, 111, 114, 101]⟩
        rw [LL.out.1] at q ho
        have g1 := XC.out.cell 1
        have g2 := (XC.out.no ht).cell 1
        have z1 := (XC.out.no ht).thawed 1
        simp at g1 g2
        have tw := Turn.set1 wb1 r6 1 (.slice E1 (M + 1) u1)
        have HE1 : Hid (Wt (wb1.setCell ⟨r6, 1, none⟩ (.slice E1 (M + 1) u1)) 9 1 E1 (M + 1) ∧ ∀ b, ablk E1 = some b → wa.heap.size ≤ b) := Lib.hid ⟨(wt_own ho).wr (XC.out.no ht) (by decide) tw, fun b hb => Nat.le_trans TA.out.size (own_at ho hb).1⟩
        have hq : At (wb1.setCell ⟨r6, 1, none⟩ (.slice E1 (M + 1) u1)) r6 (.cells #[.bool true, .slice E1 (M + 1) u1, .slice A2 M M, .slice A3 D.length D.length, .string sep, .bool true, .int .i64 nxt.slot, .int .u64 nxt.gen] 29 (0, 0)) := by simpa using (XC.out.no ht).set 1 (.slice E1 (M + 1) u1)
        have htx : Turn (fun k => k = r6) wa (wb1.setCell ⟨r6, 1, none⟩ (.slice E1 (M + 1) u1)) := (TA.out.trans (ht.mono fun _ _ h => h.elim)).trans tw
        have HQ := Lib.hid hq
        have HTX := Lib.hid htx
        clear hq htx ho ht tw
        go_upto_region 26 with (at_builtin; refine wpList_append_run rfl _ _ 23 rfl _ _ _ rfl rfl q ?_)
        clear q g1 g2 z1 XC TA
        have XC := Lib.hid HQ.out
        have TA := Lib.hid HTX.out
        clear HQ HTX
        generalize (wb1.setCell ⟨r6, 1, none⟩ (.slice E1 (M + 1) u1)) = wd1 at XC TA HE1 ⊢
        obtain ⟨E2, u2, wb2, q, ho, ht⟩ := app_fullK (K := VL) (XA.out.2.keep XA.out.1 TA.out).v (by have := H300.out.1; have := H300.out.2.1; have := H300.out.2.2; have := HM.out.2.1; have := LL.out.1; have := LL.out.2.1; omega) ⟨#[109, 111, 114, 101]⟩
        rw [LL.out.2.1] at q ho
        have g1 := XC.out.cell 2
        have g2 := (XC.out.no ht).cell 2
        have z1 := (XC.out.no ht).thawed 2
        simp at g1 g2
        have tw := Turn.set1 wb2 r6 2 (.slice E2 (M + 1) u2)
        have HE2 : Hid (Wt (wb2.setCell ⟨r6, 2, none⟩ (.slice E2 (M + 1) u2)) 9 1 E2 (M + 1) ∧ ∀ b, ablk E2 = some b → wa.heap.size ≤ b) := Lib.hid ⟨(wt_own ho).wr (XC.out.no ht) (by decide) tw, fun b hb => Nat.le_trans TA.out.size (own_at ho hb).1⟩
        have hq : At (wb2.setCell ⟨r6, 2, none⟩ (.slice E2 (M + 1) u2)) r6 (.cells #[.bool true, .slice E1 (M + 1) u1, .slice E2 (M + 1) u2, .slice A3 D.length D.length, .string sep, .bool true, .int .i64 nxt.slot, .int .u64 nxt.gen] 29 (0, 0)) := by simpa using (XC.out.no ht).set 2 (.slice E2 (M + 1) u2)
        have htx : Turn (fun k => k = r6) wa (wb2.setCell ⟨r6, 2, none⟩ (.slice E2 (M + 1) u2)) := (TA.out.trans (ht.mono fun _ _ h => h.elim)).trans tw
        replace HE1 := Lib.hid (And.intro ((HE1.out.1.no ht).wr (XC.out.no ht) (by decide) tw) HE1.out.2)
        have HQ := Lib.hid hq
        have HTX := Lib.hid htx
        clear hq htx ho ht tw
        go_upto_region 27 with (at_builtin; refine wpList_append_run rfl _ _ 23 rfl _ _ _ rfl rfl q ?_)
        clear q g1 g2 z1 XC TA
        have XC := Lib.hid HQ.out
        have TA := Lib.hid HTX.out
        clear HQ HTX
        generalize (wb2.setCell ⟨r6, 2, none⟩ (.slice E2 (M + 1) u2)) = wd2 at XC TA HE1 HE2 ⊢
        obtain ⟨E3, u3, wb3, q, ho, ht⟩ := app_fullH (D := D) (XA.out.2.keep XA.out.1 TA.out).d (by have := H300.out.1; have := H300.out.2.1; have := H300.out.2.2; have := HM.out.2.1; have := LL.out.1; have := LL.out.2.1; omega) ⟨9, 9⟩ Try.underlying24
        dsimp only at q
        have g1 := XC.out.cell 3
        have g2 := (XC.out.no ht).cell 3
        have z1 := (XC.out.no ht).thawed 3
        simp at g1 g2
        have tw := Turn.set1 wb3 r6 3 (.slice E3 (D.length + 1) u3)
        have HE3 : Hid (Wt (wb3.setCell ⟨r6, 3, none⟩ (.slice E3 (D.length + 1) u3)) 27 2 E3 (D.length + 1) ∧ ∀ b, ablk E3 = some b → wa.heap.size ≤ b) := Lib.hid ⟨(wt_own ho).wr (XC.out.no ht) (by decide) tw, fun b hb => Nat.le_trans TA.out.size (own_at ho hb).1⟩
        have hq : At (wb3.setCell ⟨r6, 3, none⟩ (.slice E3 (D.length + 1) u3)) r6 (.cells #[.bool true, .slice E1 (M + 1) u1, .slice E2 (M + 1) u2, .slice E3 (D.length + 1) u3, .string sep, .bool true, .int .i64 nxt.slot, .int .u64 nxt.gen] 29 (0, 0)) := by simpa using (XC.out.no ht).set 3 (.slice E3 (D.length + 1) u3)
        have htx : Turn (fun k => k = r6) wa (wb3.setCell ⟨r6, 3, none⟩ (.slice E3 (D.length + 1) u3)) := (TA.out.trans (ht.mono fun _ _ h => h.elim)).trans tw
        replace HE1 := Lib.hid (And.intro ((HE1.out.1.no ht).wr (XC.out.no ht) (by decide) tw) HE1.out.2)
        replace HE2 := Lib.hid (And.intro ((HE2.out.1.no ht).wr (XC.out.no ht) (by decide) tw) HE2.out.2)
        have HQ := Lib.hid hq
        have HTX := Lib.hid htx
        clear hq htx ho ht tw
        go_upto_region 28 with (at_builtin; refine wpList_append_run rfl _ _ 24 rfl _ _ _ rfl rfl q ?_)
        clear q g1 g2 z1 XC TA
        have XC := Lib.hid HQ.out
        have TA := Lib.hid HTX.out
        clear HQ HTX
        generalize (wb3.setCell ⟨r6, 3, none⟩ (.slice E3 (D.length + 1) u3)) = wd3 at XC TA HE1 HE2 HE3 ⊢
        obtain ⟨hb8, hy8⟩ := HBY.out _ TA.out
        obtain ⟨e0, e1, e2, e3, e4, e5, e6, e7⟩ := at8 hb8
        obtain ⟨f0, f1, f2, f3, f4, f5, f6, f7⟩ := at8 hy8
        clear hb8 hy8
        go_upto_region 30 with (go_at_call 18; (with_reducible refine (CEB.out _ TA.out).mono ?_); rintro e we1 ⟨rfl, ht⟩; have TJ := Lib.hid ht; clear ht e0 e1 e2 e3 e4 e5 e6 e7 f0 f1 f2 f3 f4 f5 f6 f7)
        replace XC := Lib.hid (XC.out.no TJ.out)
        replace TA := Lib.hid (TA.out.trans (TJ.out.mono fun _ _ h => h.elim))
        replace HE1 := Lib.hid (And.intro (HE1.out.1.no TJ.out) HE1.out.2)
        replace HE2 := Lib.hid (And.intro (HE2.out.1.no TJ.out) HE2.out.2)
        replace HE3 := Lib.hid (And.intro (HE3.out.1.no TJ.out) HE3.out.2)
        clear TJ
        obtain ⟨e0, e1, e2, e3, e4, e5, e6, e7⟩ := at8 XC.out
        have C := Lib.hid (spoil_any true (M + 1) (M + 1) (D.length + 1) sep true nxt.slot nxt.gen E1 E2 E3 u1 u2 u3 we1 HE1.out.1 HE2.out.1 HE3.out.1 (by have := H300.out.1; have := H300.out.2.1; have := H300.out.2.2; have := HM.out.2.1; omega) (by have := H300.out.1; have := H300.out.2.1; have := H300.out.2.2; have := HM.out.2.1; omega) (by have := H300.out.1; have := H300.out.2.1; have := H300.out.2.2; have := HM.out.2.1; omega))
        go_upto_region 31 with (go_at_call 35; (with_reducible refine C.out.mono ?_); rintro e we2 ⟨rfl, ht⟩; have TJ := Lib.hid ht; clear ht e0 e1 e2 e3 e4 e5 e6 e7)
        have htx : Turn (fun k => k = r6) wa we2 := TA.out.then TJ.out fun i hi hx => by
          rcases hx with hx | hx | hx
          · have := HE1.out.2 i hx; omega
          · have := HE2.out.2 i hx; omega
          · have := HE3.out.2 i hx; omega
        replace TA := Lib.hid htx
        clear htx TJ C XC HE1 HE2 HE3
        obtain ⟨hb8, hy8⟩ := HBY.out _ TA.out
        obtain ⟨e0, e1, e2, e3, e4, e5, e6, e7⟩ := at8 hb8
        obtain ⟨f0, f1, f2, f3, f4, f5, f6, f7⟩ := at8 hy8
        clear hb8 hy8
        go_upto_region 33 with (go_at_call 18; (with_reducible refine (CEB.out _ TA.out).mono ?_); rintro e we3 ⟨rfl, ht⟩; have TJ := Lib.hid ht; clear ht e0 e1 e2 e3 e4 e5 e6 e7 f0 f1 f2 f3 f4 f5 f6 f7)
        replace TA := Lib.hid (TA.out.trans (TJ.out.mono fun _ _ h => h.elim))
        clear TJ CEB
        obtain ⟨hb8, hy8⟩ := HBY.out _ TA.out
        obtain ⟨e0, e1, e2, e3, e4, e5, e6, e7⟩ := at8 hb8
        have hg := XB.out.2.keep XA.out.1 TA.out
        have h1 := hg.wk
        have h2 := hg.wv
        have h3 := hg.wd
        simp only [LL.out.1, LL.out.2.1, LL.out.2.2.1, LL.out.2.2.2] at h1 h2 h3
        have C := Lib.hid (spoil_any true (K.length - M) (V.length - M) D.length high bnd sl ge B1 B2 B3 d1 d2 d3 we3 h1 h2 h3 (by have := H300.out.1; have := H300.out.2.1; have := H300.out.2.2; have := HM.out.2.1; omega) (by have := H300.out.1; have := H300.out.2.1; have := H300.out.2.2; have := HM.out.2.1; omega) (by have := H300.out.1; have := H300.out.2.1; have := H300.out.2.2; have := HM.out.2.1; omega))
        have HG := Lib.hid hg
        clear hb8 hy8 hg h1 h2 h3
        go_upto_region 34 with (go_at_call 35; (with_reducible refine C.out.mono ?_); rintro e we4 ⟨rfl, ht⟩; have TJ := Lib.hid ht; clear ht e0 e1 e2 e3 e4 e5 e6 e7)
        have htx : Turn No w5 we4 := (T5.out.then TA.out fun i hi e => by have := HZ6.out; omega).then TJ.out fun i hi hx => by
          rcases hx with hx | hx | hx
          · have := HG.out.zk i hx; omega
          · have := HG.out.zv i hx; omega
          · have := HG.out.zd i hx; omega
        replace T5 := Lib.hid htx
        clear htx TJ C HG TA XA XB HY HBY
        have C := Lib.hid (eq_yes ⟨true, K, V, D, high, bnd, ⟨sl, ge⟩⟩ O1 O2 O3 AK AV AD o1 o2 o3 ck cv cd we4 (IO.out.k.no T5.out) (IO.out.v.no T5.out) (IO.out.d.no T5.out) (HI.out _ (HB.out.1.trans (T15.out.trans T5.out))).k (HI.out _ (HB.out.1.trans (T15.out.trans T5.out))).v (HI.out _ (HB.out.1.trans (T15.out.trans T5.out))).d (Nat.le_trans IO.out.lk (by decide)) (Nat.le_trans IO.out.lv (by decide)) (Nat.le_trans IO.out.ld (by decide)))
        simp only at C
        obtain ⟨e0, e1, e2, e3, e4, e5, e6, e7⟩ := at8 (XO.out.no T5.out)
        obtain ⟨c0, c1, c2, c3, c4, c5, c6, c7⟩ := at8 (HC.out _ (T15.out.trans T5.out))
        go_wp2_with (go_at_call 18; (with_reducible refine C.out.mono ?_); rintro e we5 ⟨rfl, ht⟩; have TJ := Lib.hid ht; clear ht e0 e1 e2 e3 e4 e5 e6 e7 c0 c1 c2 c3 c4 c5 c6 c7)
        go_ret
        exact ⟨rfl, HB.out.1.trans (T15.out.trans (T5.out.trans TJ.out))⟩
      | false =>
        have hD : V = [] := List.eq_nil_of_length_eq_zero (hR.2.2.2.2 rfl).1
        have hVK : D.length = K.length + 1 := (hR.2.2.2.2 rfl).2
        have hk3 : 3 ≤ K.length := hso.2.2 rfl
        obtain ⟨KL, hKL⟩ : ∃ x, K.take M = x := ⟨_, rfl⟩
        obtain ⟨DL, hVL⟩ : ∃ x, D.take (M + 1) = x := ⟨_, rfl⟩
        obtain ⟨KR, hKR⟩ : ∃ x, K.drop (M + 1) = x := ⟨_, rfl⟩
        obtain ⟨DR, hVR⟩ : ∃ x, D.drop (M + 1) = x := ⟨_, rfl⟩
        have lKL : KL.length = M := by rw [← hKL, List.length_take]; omega
        have lVL : DL.length = M + 1 := by rw [← hVL, List.length_take]; omega
        have lKR : KR.length = K.length - (M + 1) := by rw [← hKR, List.length_drop]
        have lVR : DR.length = D.length - (M + 1) := by rw [← hVR, List.length_drop]
        have LL := Lib.hid (And.intro lKL (And.intro lVL (And.intro lKR lVR)))
        have EQ := Lib.hid (And.intro hKL (And.intro hVL (And.intro hKR hVR)))
        have HVD := Lib.hid (And.intro hD (And.intro hVK (show M + 1 < K.length by omega)))
        have C := split_h o1 o2 o3 nxt IO.out hso (KL := KL) (VL := V) (KR := KR) (VR := V) (DL := DL) (DR := DR) (by rw [hM]; exact hsep) (by rw [splL_in hM hsep, hKL, hVL, hD]) (by rw [splR_in hM, hKR, hVR, hD])
        rw [lKL, lVL, lKR, lVR] at C
        have C := Lib.hid C
        clear hD hKL hVL hKR hVR lKL lVL lKR lVR hk3
        have HR := Lib.hid hR
        have HM := Lib.hid (And.intro hM (And.intro hMl (And.intro hM1 hsep)))
        have HK2 := Lib.hid hk2
        clear hR hso hVK hM hMl hM1 hsep hk2
        obtain ⟨c0, c1, c2, c3, c4, c5, c6, c7⟩ := at8 XO.out
        obtain ⟨k0, k1⟩ := at2 (HB.out.2.2.no T15.out)
        go_upto_region 7 with (go_at_call 17; (with_reducible refine C.out.mono ?_); rintro e w6 ⟨A1, A2, A3, B1, d1, B2, d2, B3, d3, rfl, hg, hg2, ht⟩; have HJ := Lib.hid (And.intro hg (And.intro hg2 ht)); clear hg hg2 ht c0 c1 c2 c3 c4 c5 c6 c7 k0 k1)
        clear C
        have HZ6 := Lib.hid HJ.out.2.2.size
        have ta : Turn No w6 (w6.alloc (.cells #[.bool false, .slice A1 M M, .slice A2 V.length V.length, .slice A3 (M + 1) (M + 1), .string sep, .bool true, .int .i64 nxt.slot, .int .u64 nxt.gen] 29)) := (Turn.refl _ _).alloc _
        have tb : Turn No (w6.alloc (.cells #[.bool false, .slice A1 M M, .slice A2 V.length V.length, .slice A3 (M + 1) (M + 1), .string sep, .bool true, .int .i64 nxt.slot, .int .u64 nxt.gen] 29)) ((w6.alloc (.cells #[.bool false, .slice A1 M M, .slice A2 V.length V.length, .slice A3 (M + 1) (M + 1), .string sep, .bool true, .int .i64 nxt.slot, .int .u64 nxt.gen] 29)).alloc (.cells #[.bool false, .slice B1 (K.length - (M + 1)) d1, .slice B2 V.length d2, .slice B3 (D.length - (M + 1)) d3, .string high, .bool bnd, .int .i64 sl, .int .u64 ge] 29)) := (Turn.refl _ _).alloc _
        have aR := At.new (w6.alloc (.cells #[.bool false, .slice A1 M M, .slice A2 V.length V.length, .slice A3 (M + 1) (M + 1), .string sep, .bool true, .int .i64 nxt.slot, .int .u64 nxt.gen] 29)) (.cells #[.bool false, .slice B1 (K.length - (M + 1)) d1, .slice B2 V.length d2, .slice B3 (D.length - (M + 1)) d3, .string high, .bool bnd, .int .i64 sl, .int .u64 ge] 29)
        rw [World.size_alloc] at aR
        have XA := Lib.hid (And.intro ((At.new w6 (.cells #[.bool false, .slice A1 M M, .slice A2 V.length V.length, .slice A3 (M + 1) (M + 1), .string sep, .bool true, .int .i64 nxt.slot, .int .u64 nxt.gen] 29)).no tb) ((HJ.out.1.no ta).no tb))
        have XB := Lib.hid (And.intro aR ((HJ.out.2.1.no ta).no tb))
        have TJ := Lib.hid ((HJ.out.2.2.trans ta).trans tb)
        clear ta tb aR
        generalize ((w6.alloc (.cells #[.bool false, .slice A1 M M, .slice A2 V.length V.length, .slice A3 (M + 1) (M + 1), .string sep, .bool true, .int .i64 nxt.slot, .int .u64 nxt.gen] 29)).alloc (.cells #[.bool false, .slice B1 (K.length - (M + 1)) d1, .slice B2 V.length d2, .slice B3 (D.length - (M + 1)) d3, .string high, .bool bnd, .int .i64 sl, .int .u64 ge] 29)) = w7 at XA XB TJ ⊢
        obtain ⟨r6, hr⟩ : ∃ q, w6.heap.size = q := ⟨_, rfl⟩
        rw [hr] at XA XB
        rw [hr]
        rw [hr] at HZ6
        clear hr
        have T5 := Lib.hid TJ.out
        clear HJ TJ
        have c1 := (HC.out _ (T15.out.trans T5.out)).cell 1
        simp at c1
        go_upto_region 8 with fail
        clear c1
        obtain ⟨c0, c1, c2, c3, c4, c5, c6, c7⟩ := at8 (HC.out _ (T15.out.trans T5.out))
        have C := Lib.hid (lright_yes ⟨false, K, V, D, high, bnd, ⟨sl, ge⟩⟩ AK AV AD ck cv cd w7 (HI.out _ (HB.out.1.trans (T15.out.trans T5.out))) HR.out)
        simp only at C
        have q3 : ¬ (K.length : Int) < 3 := by have := HVD.out.2.2; have := HM.out.2.2.1; omega
        have q2 : ¬ (K.length : Int) < 2 := by omega
        go_upto_region 10 with (go_at_call 22; (with_reducible refine C.out.mono ?_); rintro e w8 ⟨rfl, ht⟩; have TJ := Lib.hid ht; clear ht c0 c1 c2 c3 c4 c5 c6 c7; have c0 := (HC.out _ (T15.out.trans (T5.out.trans TJ.out))).cell 0; simp at c0)
        clear C q2 c0 q3
        replace T5 := Lib.hid (T5.out.trans TJ.out)
        replace XA := Lib.hid (And.intro (XA.out.1.no TJ.out) (XA.out.2.no TJ.out))
        replace XB := Lib.hid (And.intro (XB.out.1.no TJ.out) (XB.out.2.no TJ.out))
        clear TJ
        go_upto_region 11 with fail
        rw [show ((K.length : Int) / 2) = (M : Int) by have := HM.out.1; omega]
        have hA := HC.out _ (T15.out.trans T5.out)
        have hC : ∀ W, Turn No w8 W → Calls Try.prog 29 #[.agg #[.bool false, .slice AK K.length ck, .slice AV V.length cv, .slice AD D.length cd, .string high, .bool bnd, .int .i64 sl, .int .u64 ge]] W fun e w' => CopyRes false K V D high bnd sl ge W e w' := fun W t => copied_any false K V D high bnd sl ge AK AV AD ck cv cd W (HI.out _ (HB.out.1.trans (T15.out.trans (T5.out.trans t)))).k (HI.out _ (HB.out.1.trans (T15.out.trans (T5.out.trans t)))).v (HI.out _ (HB.out.1.trans (T15.out.trans (T5.out.trans t)))).d (Nat.le_trans (HI.out _ (HB.out.1.trans (T15.out.trans (T5.out.trans t)))).lk (by decide)) (Nat.le_trans (HI.out _ (HB.out.1.trans (T15.out.trans (T5.out.trans t)))).lv (by decide)) (Nat.le_trans (HI.out _ (HB.out.1.trans (T15.out.trans (T5.out.trans t)))).ld (by decide))
        go_cut [11, 12] from 59 to 62 (fun s u wx => ∃ r11 r12 X1 x1 X2 x2 X3 x3 Y1 y1 Y2 y2 Y3 y3, s = .pointer (some ⟨r11, 0, none⟩) ∧ u = .pointer (some ⟨r12, 0, none⟩) ∧ Hid (Turn No w8 wx ∧ (w8.heap.size ≤ r11 ∧ w8.heap.size ≤ r12 ∧ r11 ≠ r12) ∧ (At wx r11 (.cells #[.bool false, .slice X1 K.length x1, .slice X2 V.length x2, .slice X3 D.length x3, .string high, .bool bnd, .int .i64 sl, .int .u64 ge] 29 (0, 0)) ∧ Own w8.heap.size wx K V D X1 x1 X2 x2 X3 x3) ∧ At wx r12 (.cells #[.bool false, .slice Y1 K.length y1, .slice Y2 V.length y2, .slice Y3 D.length y3, .string high, .bool bnd, .int .i64 sl, .int .u64 ge] 29 (0, 0)) ∧ Own w8.heap.size wx K V D Y1 y1 Y2 y2 Y3 y3))
        case first =>
          refine two_copies (by rfl) (by rfl) hA hC ?_
          intro v59 v60 v61 v62 r11 r12 X1 x1 X2 x2 X3 x3 Y1 y1 Y2 y2 Y3 y3 w9 t h3 k3 ho ho2 z1 z2 hne
          have HE := Lib.hid (And.intro t (And.intro (And.intro z1 (And.intro z2 hne)) (And.intro (And.intro h3 ho) (And.intro k3 ho2))))
          clear t h3 k3 ho ho2 z1 z2 hne
          simp only [puts]
          go_wp2_with fail
          go_meet
          exact ⟨r11, r12, X1, x1, X2, x2, X3, x3, Y1, y1, Y2, y2, Y3, y3, rfl, rfl, HE⟩
        obtain ⟨r11, r12, X1, x1, X2, x2, X3, x3, Y1, y1, Y2, y2, Y3, y3, rfl, rfl, HE⟩ := hcut
        generalize wc = w9 at HE ⊢
        clear hA hC
        have T8 := Lib.hid HE.out.1
        have HZ := Lib.hid HE.out.2.1
        have HX := Lib.hid HE.out.2.2.1
        have HY := Lib.hid HE.out.2.2.2
        clear HE
        obtain ⟨gx, rfl, _, _, _, _⟩ := own_some HX.out.2.k (by have := HM.out.2.1; omega)
        obtain ⟨gy, rfl, _, _, _, _⟩ := own_some HY.out.2.k (by have := HM.out.2.1; omega)
        obtain ⟨hx, rfl, _, _, _, _⟩ := own_some HX.out.2.d (by have := HVD.out.2.1; omega)
        obtain ⟨hy, rfl, _, _, _, _⟩ := own_some HY.out.2.d (by have := HVD.out.2.1; omega)
        have hc1 := own_capN HX.out.2.k
        have hc2 := own_capM HX.out.2.k
        unfold maxLen at hc2
        have q0 : (0 : Int) ≤ (M : Int) := by omega
        have q1 : (M : Int) ≤ (x1 : Int) := by have := HM.out.2.1; have := H300.out.1; have := H300.out.2.1; have := H300.out.2.2; have := HVD.out.2.2; omega
        have q2 : M ≤ x1 := by have := HM.out.2.1; have := H300.out.1; have := H300.out.2.1; have := H300.out.2.2; have := HVD.out.2.2; omega
        have q3 : True := True.intro
        have e1 := HX.out.1.cell 1
        have z1 := HX.out.1.thawed 1
        simp at e1
        clear hc1 hc2
        go_upto_region 13 with fail
        clear q0 q1 q2 q3 e1 z1
        have tw := Turn.set1 w9 r11 1 (.slice (some ⟨gx, 0, none⟩) M x1)
        replace HY := Lib.hid (And.intro (HY.out.1.turn tw (fun e => HZ.out.2.2 e.symm)) (HY.out.2.wr HX.out.1 tw))
        have hq : At (w9.setCell ⟨r11, 1, none⟩ (.slice (some ⟨gx, 0, none⟩) M x1)) r11 (.cells #[.bool false, .slice (some ⟨gx, 0, none⟩) M x1, .slice X2 V.length x2, .slice (some ⟨hx, 0, none⟩) D.length x3, .string high, .bool bnd, .int .i64 sl, .int .u64 ge] 29 (0, 0)) := by simpa using HX.out.1.set 1 (.slice (some ⟨gx, 0, none⟩) M x1)
        replace HX := Lib.hid (And.intro hq (HX.out.2.wr HX.out.1 tw))
        replace T8 := Lib.hid (st1 (r := r11) (i := 1) (u := (.slice (some ⟨gx, 0, none⟩) M x1)) T8.out HZ.out.1)
        clear tw hq
        generalize (w9.setCell ⟨r11, 1, none⟩ (.slice (some ⟨gx, 0, none⟩) M x1)) = w10 at HX HY T8 ⊢
        have c0 := (HC.out _ (T15.out.trans (T5.out.trans T8.out))).cell 0
        simp at c0
        go_upto_region 17 with fail
        clear c0
        have hc1 := own_capN HX.out.2.d
        have hc2 := own_capM HX.out.2.d
        unfold maxLen at hc2
        have q0 : (0 : Int) ≤ ((M : Int) + 1) := by omega
        have qw : IntKind.i64.wrap ((M : Int) + 1) = (M : Int) + 1 := IntWalk.i64_in _ ⟨by omega, by have := HM.out.2.1; have := HVD.out.2.1; have := H300.out.1; have := H300.out.2.1; have := H300.out.2.2; have := HVD.out.2.2; omega⟩
        have qn : ((M : Int) + 1).toNat = M + 1 := by omega
        have q1 : ((M : Int) + 1) ≤ (x3 : Int) := by have := HM.out.2.1; have := HVD.out.2.1; have := H300.out.1; have := H300.out.2.1; have := H300.out.2.2; have := HVD.out.2.2; omega
        have q2 : (M + 1) ≤ x3 := by have := HM.out.2.1; have := HVD.out.2.1; have := H300.out.1; have := H300.out.2.1; have := H300.out.2.2; have := HVD.out.2.2; omega
        have q3 : True := True.intro
        have e1 := HX.out.1.cell 3
        have z1 := HX.out.1.thawed 3
        simp at e1
        clear hc1 hc2
        go_upto_region 18 with fail
        clear q0 q1 q2 q3 qw qn e1 z1
        have tw := Turn.set1 w10 r11 3 (.slice (some ⟨hx, 0, none⟩) (M + 1) x3)
        replace HY := Lib.hid (And.intro (HY.out.1.turn tw (fun e => HZ.out.2.2 e.symm)) (HY.out.2.wr HX.out.1 tw))
        have hq : At (w10.setCell ⟨r11, 3, none⟩ (.slice (some ⟨hx, 0, none⟩) (M + 1) x3)) r11 (.cells #[.bool false, .slice (some ⟨gx, 0, none⟩) M x1, .slice X2 V.length x2, .slice (some ⟨hx, 0, none⟩) (M + 1) x3, .string high, .bool bnd, .int .i64 sl, .int .u64 ge] 29 (0, 0)) := by simpa using HX.out.1.set 3 (.slice (some ⟨hx, 0, none⟩) (M + 1) x3)
        replace HX := Lib.hid (And.intro hq (HX.out.2.wr HX.out.1 tw))
        replace T8 := Lib.hid (st1 (r := r11) (i := 3) (u := (.slice (some ⟨hx, 0, none⟩) (M + 1) x3)) T8.out HZ.out.1)
        clear tw hq
        generalize (w10.setCell ⟨r11, 3, none⟩ (.slice (some ⟨hx, 0, none⟩) (M + 1) x3)) = w11 at HX HY T8 ⊢
        have hc1 := own_capN HY.out.2.k
        have hc2 := own_capM HY.out.2.k
        unfold maxLen at hc2
        have q0 : (0 : Int) ≤ ((M : Int) + 1) := by omega
        have qw : IntKind.i64.wrap ((M : Int) + 1) = (M : Int) + 1 := IntWalk.i64_in _ ⟨by omega, by have := HM.out.2.1; have := H300.out.1; have := H300.out.2.1; have := H300.out.2.2; have := HVD.out.2.2; omega⟩
        have qn : ((M : Int) + 1).toNat = M + 1 := by omega
        have q1 : ((M : Int) + 1) ≤ (K.length : Int) := by have := HM.out.2.1; have := H300.out.1; have := H300.out.2.1; have := H300.out.2.2; have := HVD.out.2.2; omega
        have q2 : (K.length : Int) ≤ (y1 : Int) := by omega
        have q3 : (M + 1) ≤ y1 := by have := HM.out.2.1; have := H300.out.1; have := H300.out.2.1; have := H300.out.2.2; have := HVD.out.2.2; omega
        have q4 : ¬ y1 = (M + 1) := by have := HM.out.2.1; have := H300.out.1; have := H300.out.2.1; have := H300.out.2.2; have := HVD.out.2.2; omega
        have q5 : ¬ y1 - (M + 1) = 0 := by have := HM.out.2.1; have := H300.out.1; have := H300.out.2.1; have := H300.out.2.2; have := HVD.out.2.2; omega
        have q6 : (M + 1) ≤ K.length := by have := HM.out.2.1; have := H300.out.1; have := H300.out.2.1; have := H300.out.2.2; have := HVD.out.2.2; omega
        have q7 : ¬ K.length = (M + 1) := by have := HM.out.2.1; have := H300.out.1; have := H300.out.2.1; have := H300.out.2.2; have := HVD.out.2.2; omega
        have e1 := HY.out.1.cell 1
        have z1 := HY.out.1.thawed 1
        simp at e1
        clear hc1 hc2
        go_upto_region 19 with fail
        clear q0 q1 q2 q3 qw qn q4 q5 q6 q7 e1 z1
        have tw := Turn.set1 w11 r12 1 (.slice (some ⟨gy, M + 1, none⟩) (K.length - (M + 1)) (y1 - (M + 1)))
        replace HX := Lib.hid (And.intro (HX.out.1.turn tw HZ.out.2.2) (HX.out.2.wr HY.out.1 tw))
        have hq : At (w11.setCell ⟨r12, 1, none⟩ (.slice (some ⟨gy, M + 1, none⟩) (K.length - (M + 1)) (y1 - (M + 1)))) r12 (.cells #[.bool false, .slice (some ⟨gy, M + 1, none⟩) (K.length - (M + 1)) (y1 - (M + 1)), .slice Y2 V.length y2, .slice (some ⟨hy, 0, none⟩) D.length y3, .string high, .bool bnd, .int .i64 sl, .int .u64 ge] 29 (0, 0)) := by simpa using HY.out.1.set 1 (.slice (some ⟨gy, M + 1, none⟩) (K.length - (M + 1)) (y1 - (M + 1)))
        replace HY := Lib.hid (And.intro hq (HY.out.2.wr HY.out.1 tw))
        replace T8 := Lib.hid (st1 (r := r12) (i := 1) (u := (.slice (some ⟨gy, M + 1, none⟩) (K.length - (M + 1)) (y1 - (M + 1)))) T8.out HZ.out.2.1)
        clear tw hq
        generalize (w11.setCell ⟨r12, 1, none⟩ (.slice (some ⟨gy, M + 1, none⟩) (K.length - (M + 1)) (y1 - (M + 1)))) = w12 at HX HY T8 ⊢
        have hc1 := own_capN HY.out.2.d
        have hc2 := own_capM HY.out.2.d
        unfold maxLen at hc2
        have q0 : (0 : Int) ≤ ((M : Int) + 1) := by omega
        have qw : IntKind.i64.wrap ((M : Int) + 1) = (M : Int) + 1 := IntWalk.i64_in _ ⟨by omega, by have := HM.out.2.1; have := HVD.out.2.1; have := H300.out.1; have := H300.out.2.1; have := H300.out.2.2; have := HVD.out.2.2; omega⟩
        have qn : ((M : Int) + 1).toNat = M + 1 := by omega
        have q1 : ((M : Int) + 1) ≤ (D.length : Int) := by have := HM.out.2.1; have := HVD.out.2.1; have := H300.out.1; have := H300.out.2.1; have := H300.out.2.2; have := HVD.out.2.2; omega
        have q2 : (D.length : Int) ≤ (y3 : Int) := by omega
        have q3 : (M + 1) ≤ y3 := by have := HM.out.2.1; have := HVD.out.2.1; have := H300.out.1; have := H300.out.2.1; have := H300.out.2.2; have := HVD.out.2.2; omega
        have q4 : ¬ y3 = (M + 1) := by have := HM.out.2.1; have := HVD.out.2.1; have := H300.out.1; have := H300.out.2.1; have := H300.out.2.2; have := HVD.out.2.2; omega
        have q5 : ¬ y3 - (M + 1) = 0 := by have := HM.out.2.1; have := HVD.out.2.1; have := H300.out.1; have := H300.out.2.1; have := H300.out.2.2; have := HVD.out.2.2; omega
        have q6 : (M + 1) ≤ D.length := by have := HM.out.2.1; have := HVD.out.2.1; have := H300.out.1; have := H300.out.2.1; have := H300.out.2.2; have := HVD.out.2.2; omega
        have q7 : ¬ D.length = (M + 1) := by have := HM.out.2.1; have := HVD.out.2.1; have := H300.out.1; have := H300.out.2.1; have := H300.out.2.2; have := HVD.out.2.2; omega
        have e1 := HY.out.1.cell 3
        have z1 := HY.out.1.thawed 3
        simp at e1
        clear hc1 hc2
        go_upto_region 20 with fail
        clear q0 q1 q2 q3 qw qn q4 q5 q6 q7 e1 z1
        have tw := Turn.set1 w12 r12 3 (.slice (some ⟨hy, (M + 1) * 2, none⟩) (D.length - (M + 1)) (y3 - (M + 1)))
        replace HX := Lib.hid (And.intro (HX.out.1.turn tw HZ.out.2.2) (HX.out.2.wr HY.out.1 tw))
        have hq : At (w12.setCell ⟨r12, 3, none⟩ (.slice (some ⟨hy, (M + 1) * 2, none⟩) (D.length - (M + 1)) (y3 - (M + 1)))) r12 (.cells #[.bool false, .slice (some ⟨gy, M + 1, none⟩) (K.length - (M + 1)) (y1 - (M + 1)), .slice Y2 V.length y2, .slice (some ⟨hy, (M + 1) * 2, none⟩) (D.length - (M + 1)) (y3 - (M + 1)), .string high, .bool bnd, .int .i64 sl, .int .u64 ge] 29 (0, 0)) := by simpa using HY.out.1.set 3 (.slice (some ⟨hy, (M + 1) * 2, none⟩) (D.length - (M + 1)) (y3 - (M + 1)))
        replace HY := Lib.hid (And.intro hq (HY.out.2.wr HY.out.1 tw))
        replace T8 := Lib.hid (st1 (r := r12) (i := 3) (u := (.slice (some ⟨hy, (M + 1) * 2, none⟩) (D.length - (M + 1)) (y3 - (M + 1)))) T8.out HZ.out.2.1)
        clear tw hq
        generalize (w12.setCell ⟨r12, 3, none⟩ (.slice (some ⟨hy, (M + 1) * 2, none⟩) (D.length - (M + 1)) (y3 - (M + 1)))) = w13 at HX HY T8 ⊢
        obtain ⟨ab, ao, hAK, hc⟩ := kcs_hold (HI.out _ (HB.out.1.trans (T15.out.trans (T5.out.trans T8.out)))).k HM.out.2.2.2
        have HK0 := Lib.hid hc
        clear hc
        have HAK := Lib.hid hAK
        clear hAK
        have x0 := HK0.out _ (Turn.refl _ _)
        have c1 := (HC.out _ (T15.out.trans (T5.out.trans T8.out))).cell 1
        simp at c1
        rw [HAK.out] at c1
        have q1 : (0 : Int) ≤ (M : Int) := by omega
        have q2 : (M : Int) < (K.length : Int) := by have := HM.out.2.1; omega
        have e4 := HX.out.1.cell 4
        have z4 := HX.out.1.thawed 4
        simp at e4
        clear HK0
        go_upto_region 21 with fail
        clear x0 c1 e4 z4
        have tw := Turn.set1 w13 r11 4 (.string sep)
        replace HY := Lib.hid (And.intro (HY.out.1.turn tw (fun e => HZ.out.2.2 e.symm)) (HY.out.2.wr HX.out.1 tw))
        have hq : At (w13.setCell ⟨r11, 4, none⟩ (.string sep)) r11 (.cells #[.bool false, .slice (some ⟨gx, 0, none⟩) M x1, .slice X2 V.length x2, .slice (some ⟨hx, 0, none⟩) (M + 1) x3, .string sep, .bool bnd, .int .i64 sl, .int .u64 ge] 29 (0, 0)) := by simpa using HX.out.1.set 4 (.string sep)
        replace HX := Lib.hid (And.intro hq (HX.out.2.wr HX.out.1 tw))
        replace T8 := Lib.hid (st1 (r := r11) (i := 4) (u := (.string sep)) T8.out HZ.out.1)
        clear tw hq
        generalize (w13.setCell ⟨r11, 4, none⟩ (.string sep)) = w14 at HX HY T8 ⊢
        have e5 := HX.out.1.cell 5
        have z5 := HX.out.1.thawed 5
        simp at e5
        go_upto_region 22 with fail
        clear e5 z5
        have tw := Turn.set1 w14 r11 5 (.bool true)
        replace HY := Lib.hid (And.intro (HY.out.1.turn tw (fun e => HZ.out.2.2 e.symm)) (HY.out.2.wr HX.out.1 tw))
        have hq : At (w14.setCell ⟨r11, 5, none⟩ (.bool true)) r11 (.cells #[.bool false, .slice (some ⟨gx, 0, none⟩) M x1, .slice X2 V.length x2, .slice (some ⟨hx, 0, none⟩) (M + 1) x3, .string sep, .bool true, .int .i64 sl, .int .u64 ge] 29 (0, 0)) := by simpa using HX.out.1.set 5 (.bool true)
        replace HX := Lib.hid (And.intro hq (HX.out.2.wr HX.out.1 tw))
        replace T8 := Lib.hid (st1 (r := r11) (i := 5) (u := (.bool true)) T8.out HZ.out.1)
        clear tw hq
        generalize (w14.setCell ⟨r11, 5, none⟩ (.bool true)) = w15 at HX HY T8 ⊢
        have e6 := HX.out.1.cell 6
        have z6 := HX.out.1.thawed 6
        have e7 := HX.out.1.cell 7
        have z7 := HX.out.1.thawed 7
        obtain ⟨k0, k1⟩ := at2 (HB.out.2.2.no (T15.out.trans (T5.out.trans T8.out)))
        simp at e6 e7
        go_upto_region 23 with fail
        clear e6 z6 e7 z7 k0 k1
        have tw := Turn.set1 w15 r11 6 (.int .i64 nxt.slot)
        replace HY := Lib.hid (And.intro (HY.out.1.turn tw (fun e => HZ.out.2.2 e.symm)) (HY.out.2.wr HX.out.1 tw))
        have hq : At (w15.setCell ⟨r11, 6, none⟩ (.int .i64 nxt.slot)) r11 (.cells #[.bool false, .slice (some ⟨gx, 0, none⟩) M x1, .slice X2 V.length x2, .slice (some ⟨hx, 0, none⟩) (M + 1) x3, .string sep, .bool true, .int .i64 nxt.slot, .int .u64 ge] 29 (0, 0)) := by simpa using HX.out.1.set 6 (.int .i64 nxt.slot)
        replace HX := Lib.hid (And.intro hq (HX.out.2.wr HX.out.1 tw))
        replace T8 := Lib.hid (st1 (r := r11) (i := 6) (u := (.int .i64 nxt.slot)) T8.out HZ.out.1)
        clear tw hq
        have tw := Turn.set1 (w15.setCell ⟨r11, 6, none⟩ (.int .i64 nxt.slot)) r11 7 (.int .u64 nxt.gen)
        replace HY := Lib.hid (And.intro (HY.out.1.turn tw (fun e => HZ.out.2.2 e.symm)) (HY.out.2.wr HX.out.1 tw))
        have hq : At ((w15.setCell ⟨r11, 6, none⟩ (.int .i64 nxt.slot)).setCell ⟨r11, 7, none⟩ (.int .u64 nxt.gen)) r11 (.cells #[.bool false, .slice (some ⟨gx, 0, none⟩) M x1, .slice X2 V.length x2, .slice (some ⟨hx, 0, none⟩) (M + 1) x3, .string sep, .bool true, .int .i64 nxt.slot, .int .u64 nxt.gen] 29 (0, 0)) := by simpa using HX.out.1.set 7 (.int .u64 nxt.gen)
        replace HX := Lib.hid (And.intro hq (HX.out.2.wr HX.out.1 tw))
        replace T8 := Lib.hid (st1 (r := r11) (i := 7) (u := (.int .u64 nxt.gen)) T8.out HZ.out.1)
        clear tw hq
        generalize ((w15.setCell ⟨r11, 6, none⟩ (.int .i64 nxt.slot)).setCell ⟨r11, 7, none⟩ (.int .u64 nxt.gen)) = w16 at HX HY T8 ⊢
        have CE1 := eq_yes ⟨false, KL, V, DL, sep, true, nxt⟩ A1 A2 A3 (some ⟨gx, 0, none⟩) X2 (some ⟨hx, 0, none⟩) KL.length V.length DL.length x1 x2 x3 w16 (XA.out.2.k.no T8.out) (XA.out.2.v.no T8.out) (XA.out.2.d.no T8.out) (rowK_take HX.out.2.k EQ.out.1) (row_of_own HX.out.2.v) (rowH_take HX.out.2.d (by have := HVD.out.2.1; have := HM.out.2.1; omega) EQ.out.2.1) (by have := H300.out.1; have := H300.out.2.1; have := H300.out.2.2; have := HM.out.2.1; simp only [LL.out.1, LL.out.2.1, LL.out.2.2.1, LL.out.2.2.2]; omega) (by have := H300.out.1; have := H300.out.2.1; have := H300.out.2.2; have := HM.out.2.1; simp only [LL.out.1, LL.out.2.1, LL.out.2.2.1, LL.out.2.2.2]; omega) (by have := H300.out.1; have := H300.out.2.1; have := H300.out.2.2; have := HM.out.2.1; simp only [LL.out.1, LL.out.2.1, LL.out.2.2.1, LL.out.2.2.2]; omega)
        have CE2 := Lib.hid fun (W : World) (t : Turn No w16 W) => eq_yes ⟨false, KR, V, DR, high, bnd, ⟨sl, ge⟩⟩ B1 B2 B3 (some ⟨gy, M + 1, none⟩) Y2 (some ⟨hy, (M + 1) * 2, none⟩) d1 d2 d3 (y1 - (M + 1)) y2 (y3 - (M + 1)) W (XB.out.2.k.no (T8.out.trans t)) (XB.out.2.v.no (T8.out.trans t)) (XB.out.2.d.no (T8.out.trans t)) (rowK_drop (HY.out.2.no t).k EQ.out.2.2.1) (row_of_own (HY.out.2.no t).v) (rowH_drop (HY.out.2.no t).d (by have := HVD.out.2.1; have := HM.out.2.1; omega) EQ.out.2.2.2) (by have := H300.out.1; have := H300.out.2.1; have := H300.out.2.2; have := HM.out.2.1; simp only [LL.out.1, LL.out.2.1, LL.out.2.2.1, LL.out.2.2.2]; omega) (by have := H300.out.1; have := H300.out.2.1; have := H300.out.2.2; have := HM.out.2.1; simp only [LL.out.1, LL.out.2.1, LL.out.2.2.1, LL.out.2.2.2]; omega) (by have := H300.out.1; have := H300.out.2.1; have := H300.out.2.2; have := HM.out.2.1; simp only [LL.out.1, LL.out.2.1, LL.out.2.2.1, LL.out.2.2.2]; omega)
        simp only [LL.out.1, LL.out.2.1, LL.out.2.2.1, LL.out.2.2.2] at CE1 CE2
        have CE1 := Lib.hid CE1
        have qe := bytes_beq sep sep
        rw [decide_eq_true rfl] at qe
        have x0 := (kcs_hold (HI.out _ (HB.out.1.trans (T15.out.trans (T5.out.trans T8.out)))).k HM.out.2.2.2)
        obtain ⟨ab2, ao2, hAK2, hc⟩ := x0
        rw [HAK.out] at hAK2
        injection hAK2 with hAK2
        injection hAK2 with e1 e2
        subst e1 e2
        have x0 := hc _ (Turn.refl _ _)
        clear hc
        have c1 := (HC.out _ (T15.out.trans (T5.out.trans T8.out))).cell 1
        simp at c1
        rw [HAK.out] at c1
        have q1 : (0 : Int) ≤ (M : Int) := by omega
        have q2 : (M : Int) < (K.length : Int) := by have := HM.out.2.1; omega
        obtain ⟨e0, e1, e2, e3, e4, e5, e6, e7⟩ := at8 (XA.out.1.no T8.out)
        obtain ⟨f0, f1, f2, f3, f4, f5, f6, f7⟩ := at8 HX.out.1
        go_upto_region 25 with (first | (go_at_call 18; (with_reducible refine CE1.out.mono ?_); rintro e w30 ⟨rfl, ht⟩; have T30 := Lib.hid ht; clear ht e0 e1 e2 e3 e4 e5 e6 e7 f0 f1 f2 f3 f4 f5 f6 f7; obtain ⟨e0, e1, e2, e3, e4, e5, e6, e7⟩ := at8 ((XB.out.1.no T8.out).no T30.out); obtain ⟨f0, f1, f2, f3, f4, f5, f6, f7⟩ := at8 (HY.out.1.no T30.out)) | (go_at_call 18; (with_reducible refine (CE2.out _ T30.out).mono ?_); rintro e w31 ⟨rfl, ht⟩; have TJ := Lib.hid ((T8.out.trans T30.out).trans ht); have TY := Lib.hid (T30.out.trans ht); clear ht e0 e1 e2 e3 e4 e5 e6 e7 f0 f1 f2 f3 f4 f5 f6 f7))
        clear CE1 CE2 qe x0 c1 q1 q2 HX T30
        have HNE : Hid (r12 ≠ r6 ∧ r6 + 1 ≠ r6) := Lib.hid ⟨fun e => by have := HZ.out.2.1; have := XA.out.1.lt; omega, by omega⟩
        replace XA := Lib.hid (And.intro (XA.out.1.no TJ.out) (XA.out.2.no TJ.out))
        replace XB := Lib.hid (And.intro (XB.out.1.no TJ.out) (XB.out.2.no TJ.out))
        replace HY := Lib.hid (And.intro (HY.out.1.no TY.out) (HY.out.2.no TY.out))
        replace T5 := Lib.hid (T5.out.trans TJ.out)
        clear TJ TY T8 HZ
        generalize w31 = wa at XA XB HY T5 ⊢
        have TA : Hid (Turn (fun k => k = r6) wa wa) := Lib.hid (Turn.refl _ _)
        have XC := Lib.hid XA.out.1
        have CEB := Lib.hid fun (W : World) (t : Turn (fun k => k = r6) wa W) => eq_yes ⟨false, KR, V, DR, high, bnd, ⟨sl, ge⟩⟩ B1 B2 B3 (some ⟨gy, M + 1, none⟩) Y2 (some ⟨hy, (M + 1) * 2, none⟩) d1 d2 d3 (y1 - (M + 1)) y2 (y3 - (M + 1)) W (XB.out.2.keep XA.out.1 t).k (XB.out.2.keep XA.out.1 t).v (XB.out.2.keep XA.out.1 t).d (rowK_drop (HY.out.2.wr XA.out.1 t).k EQ.out.2.2.1) (row_of_own (HY.out.2.wr XA.out.1 t).v) (rowH_drop (HY.out.2.wr XA.out.1 t).d (by have := HVD.out.2.1; have := HM.out.2.1; omega) EQ.out.2.2.2) (by have := H300.out.1; have := H300.out.2.1; have := H300.out.2.2; have := HM.out.2.1; simp only [LL.out.1, LL.out.2.1, LL.out.2.2.1, LL.out.2.2.2]; omega) (by have := H300.out.1; have := H300.out.2.1; have := H300.out.2.2; have := HM.out.2.1; simp only [LL.out.1, LL.out.2.1, LL.out.2.2.1, LL.out.2.2.2]; omega) (by have := H300.out.1; have := H300.out.2.1; have := H300.out.2.2; have := HM.out.2.1; simp only [LL.out.1, LL.out.2.1, LL.out.2.2.1, LL.out.2.2.2]; omega)
        simp only [LL.out.1, LL.out.2.1, LL.out.2.2.1, LL.out.2.2.2] at CEB
        have HBY := Lib.hid fun (W : World) (t : Turn (fun k => k = r6) wa W) => And.intro (XB.out.1.turn t HNE.out.2) (HY.out.1.turn t HNE.out.1)
        obtain ⟨E1, u1, wb1, q, ho, ht⟩ := app_fullK (K := KL) (XA.out.2.keep XA.out.1 TA.out).k (by have := H300.out.1; have := H300.out.2.1; have := H300.out.2.2; have := HM.out.2.1; have := LL.out.1; have := LL.out.2.1; omega) ⟨#[109, 111, 114, 101]⟩
        rw [LL.out.1] at q ho
        have g1 := XC.out.cell 1
        have g2 := (XC.out.no ht).cell 1
        have z1 := (XC.out.no ht).thawed 1
        simp at g1 g2
        have tw := Turn.set1 wb1 r6 1 (.slice E1 (M + 1) u1)
        have HE1 : Hid (Wt (wb1.setCell ⟨r6, 1, none⟩ (.slice E1 (M + 1) u1)) 9 1 E1 (M + 1) ∧ ∀ b, ablk E1 = some b → wa.heap.size ≤ b) := Lib.hid ⟨(wt_own ho).wr (XC.out.no ht) (by decide) tw, fun b hb => Nat.le_trans TA.out.size (own_at ho hb).1⟩
        have hq : At (wb1.setCell ⟨r6, 1, none⟩ (.slice E1 (M + 1) u1)) r6 (.cells #[.bool false, .slice E1 (M + 1) u1, .slice A2 V.length V.length, .slice A3 (M + 1) (M + 1), .string sep, .bool true, .int .i64 nxt.slot, .int .u64 nxt.gen] 29 (0, 0)) := by simpa using (XC.out.no ht).set 1 (.slice E1 (M + 1) u1)
        have htx : Turn (fun k => k = r6) wa (wb1.setCell ⟨r6, 1, none⟩ (.slice E1 (M + 1) u1)) := (TA.out.trans (ht.mono fun _ _ h => h.elim)).trans tw
        have HQ := Lib.hid hq
        have HTX := Lib.hid htx
        clear hq htx ho ht tw
        go_upto_region 26 with (at_builtin; refine wpList_append_run rfl _ _ 23 rfl _ _ _ rfl rfl q ?_)
        clear q g1 g2 z1 XC TA
        have XC := Lib.hid HQ.out
        have TA := Lib.hid HTX.out
        clear HQ HTX
        generalize (wb1.setCell ⟨r6, 1, none⟩ (.slice E1 (M + 1) u1)) = wd1 at XC TA HE1 ⊢
        obtain ⟨E2, u2, wb2, q, ho, ht⟩ := app_fullK (K := V) (XA.out.2.keep XA.out.1 TA.out).v (by have := H300.out.1; have := H300.out.2.1; have := H300.out.2.2; have := HM.out.2.1; have := LL.out.1; have := LL.out.2.1; omega) ⟨#[109, 111, 114, 101]⟩
        have g1 := XC.out.cell 2
        have g2 := (XC.out.no ht).cell 2
        have z1 := (XC.out.no ht).thawed 2
        simp at g1 g2
        have tw := Turn.set1 wb2 r6 2 (.slice E2 (V.length + 1) u2)
        have HE2 : Hid (Wt (wb2.setCell ⟨r6, 2, none⟩ (.slice E2 (V.length + 1) u2)) 9 1 E2 (V.length + 1) ∧ ∀ b, ablk E2 = some b → wa.heap.size ≤ b) := Lib.hid ⟨(wt_own ho).wr (XC.out.no ht) (by decide) tw, fun b hb => Nat.le_trans TA.out.size (own_at ho hb).1⟩
        have hq : At (wb2.setCell ⟨r6, 2, none⟩ (.slice E2 (V.length + 1) u2)) r6 (.cells #[.bool false, .slice E1 (M + 1) u1, .slice E2 (V.length + 1) u2, .slice A3 (M + 1) (M + 1), .string sep, .bool true, .int .i64 nxt.slot, .int .u64 nxt.gen] 29 (0, 0)) := by simpa using (XC.out.no ht).set 2 (.slice E2 (V.length + 1) u2)
        have htx : Turn (fun k => k = r6) wa (wb2.setCell ⟨r6, 2, none⟩ (.slice E2 (V.length + 1) u2)) := (TA.out.trans (ht.mono fun _ _ h => h.elim)).trans tw
        replace HE1 := Lib.hid (And.intro ((HE1.out.1.no ht).wr (XC.out.no ht) (by decide) tw) HE1.out.2)
        have HQ := Lib.hid hq
        have HTX := Lib.hid htx
        clear hq htx ho ht tw
        go_upto_region 27 with (at_builtin; refine wpList_append_run rfl _ _ 23 rfl _ _ _ rfl rfl q ?_)
        clear q g1 g2 z1 XC TA
        have XC := Lib.hid HQ.out
        have TA := Lib.hid HTX.out
        clear HQ HTX
        generalize (wb2.setCell ⟨r6, 2, none⟩ (.slice E2 (V.length + 1) u2)) = wd2 at XC TA HE1 HE2 ⊢
        obtain ⟨E3, u3, wb3, q, ho, ht⟩ := app_fullH (D := DL) (XA.out.2.keep XA.out.1 TA.out).d (by have := H300.out.1; have := H300.out.2.1; have := H300.out.2.2; have := HM.out.2.1; have := LL.out.1; have := LL.out.2.1; omega) ⟨9, 9⟩ Try.underlying24
        dsimp only at q
        rw [LL.out.2.1] at q ho
        have g1 := XC.out.cell 3
        have g2 := (XC.out.no ht).cell 3
        have z1 := (XC.out.no ht).thawed 3
        simp at g1 g2
        have tw := Turn.set1 wb3 r6 3 (.slice E3 ((M + 1) + 1) u3)
        have HE3 : Hid (Wt (wb3.setCell ⟨r6, 3, none⟩ (.slice E3 ((M + 1) + 1) u3)) 27 2 E3 ((M + 1) + 1) ∧ ∀ b, ablk E3 = some b → wa.heap.size ≤ b) := Lib.hid ⟨(wt_own ho).wr (XC.out.no ht) (by decide) tw, fun b hb => Nat.le_trans TA.out.size (own_at ho hb).1⟩
        have hq : At (wb3.setCell ⟨r6, 3, none⟩ (.slice E3 ((M + 1) + 1) u3)) r6 (.cells #[.bool false, .slice E1 (M + 1) u1, .slice E2 (V.length + 1) u2, .slice E3 ((M + 1) + 1) u3, .string sep, .bool true, .int .i64 nxt.slot, .int .u64 nxt.gen] 29 (0, 0)) := by simpa using (XC.out.no ht).set 3 (.slice E3 ((M + 1) + 1) u3)
        have htx : Turn (fun k => k = r6) wa (wb3.setCell ⟨r6, 3, none⟩ (.slice E3 ((M + 1) + 1) u3)) := (TA.out.trans (ht.mono fun _ _ h => h.elim)).trans tw
        replace HE1 := Lib.hid (And.intro ((HE1.out.1.no ht).wr (XC.out.no ht) (by decide) tw) HE1.out.2)
        replace HE2 := Lib.hid (And.intro ((HE2.out.1.no ht).wr (XC.out.no ht) (by decide) tw) HE2.out.2)
        have HQ := Lib.hid hq
        have HTX := Lib.hid htx
        clear hq htx ho ht tw
        go_upto_region 28 with (at_builtin; refine wpList_append_run rfl _ _ 24 rfl _ _ _ rfl rfl q ?_)
        clear q g1 g2 z1 XC TA
        have XC := Lib.hid HQ.out
        have TA := Lib.hid HTX.out
        clear HQ HTX
        generalize (wb3.setCell ⟨r6, 3, none⟩ (.slice E3 ((M + 1) + 1) u3)) = wd3 at XC TA HE1 HE2 HE3 ⊢
        obtain ⟨hb8, hy8⟩ := HBY.out _ TA.out
        obtain ⟨e0, e1, e2, e3, e4, e5, e6, e7⟩ := at8 hb8
        obtain ⟨f0, f1, f2, f3, f4, f5, f6, f7⟩ := at8 hy8
        clear hb8 hy8
        go_upto_region 30 with (go_at_call 18; (with_reducible refine (CEB.out _ TA.out).mono ?_); rintro e we1 ⟨rfl, ht⟩; have TJ := Lib.hid ht; clear ht e0 e1 e2 e3 e4 e5 e6 e7 f0 f1 f2 f3 f4 f5 f6 f7)
        replace XC := Lib.hid (XC.out.no TJ.out)
        replace TA := Lib.hid (TA.out.trans (TJ.out.mono fun _ _ h => h.elim))
        replace HE1 := Lib.hid (And.intro (HE1.out.1.no TJ.out) HE1.out.2)
        replace HE2 := Lib.hid (And.intro (HE2.out.1.no TJ.out) HE2.out.2)
        replace HE3 := Lib.hid (And.intro (HE3.out.1.no TJ.out) HE3.out.2)
        clear TJ
        obtain ⟨e0, e1, e2, e3, e4, e5, e6, e7⟩ := at8 XC.out
        have C := Lib.hid (spoil_any false (M + 1) (V.length + 1) ((M + 1) + 1) sep true nxt.slot nxt.gen E1 E2 E3 u1 u2 u3 we1 HE1.out.1 HE2.out.1 HE3.out.1 (by have := H300.out.1; have := H300.out.2.1; have := H300.out.2.2; have := HM.out.2.1; omega) (by have := H300.out.1; have := H300.out.2.1; have := H300.out.2.2; have := HM.out.2.1; omega) (by have := H300.out.1; have := H300.out.2.1; have := H300.out.2.2; have := HM.out.2.1; omega))
        go_upto_region 31 with (go_at_call 35; (with_reducible refine C.out.mono ?_); rintro e we2 ⟨rfl, ht⟩; have TJ := Lib.hid ht; clear ht e0 e1 e2 e3 e4 e5 e6 e7)
        have htx : Turn (fun k => k = r6) wa we2 := TA.out.then TJ.out fun i hi hx => by
          rcases hx with hx | hx | hx
          · have := HE1.out.2 i hx; omega
          · have := HE2.out.2 i hx; omega
          · have := HE3.out.2 i hx; omega
        replace TA := Lib.hid htx
        clear htx TJ C XC HE1 HE2 HE3
        obtain ⟨hb8, hy8⟩ := HBY.out _ TA.out
        obtain ⟨e0, e1, e2, e3, e4, e5, e6, e7⟩ := at8 hb8
        obtain ⟨f0, f1, f2, f3, f4, f5, f6, f7⟩ := at8 hy8
        clear hb8 hy8
        go_upto_region 33 with (go_at_call 18; (with_reducible refine (CEB.out _ TA.out).mono ?_); rintro e we3 ⟨rfl, ht⟩; have TJ := Lib.hid ht; clear ht e0 e1 e2 e3 e4 e5 e6 e7 f0 f1 f2 f3 f4 f5 f6 f7)
        replace TA := Lib.hid (TA.out.trans (TJ.out.mono fun _ _ h => h.elim))
        clear TJ CEB
        obtain ⟨hb8, hy8⟩ := HBY.out _ TA.out
        obtain ⟨e0, e1, e2, e3, e4, e5, e6, e7⟩ := at8 hb8
        have hg := XB.out.2.keep XA.out.1 TA.out
        have h1 := hg.wk
        have h2 := hg.wv
        have h3 := hg.wd
        simp only [LL.out.1, LL.out.2.1, LL.out.2.2.1, LL.out.2.2.2] at h1 h2 h3
        have C := Lib.hid (spoil_any false (K.length - (M + 1)) V.length (D.length - (M + 1)) high bnd sl ge B1 B2 B3 d1 d2 d3 we3 h1 h2 h3 (by have := H300.out.1; have := H300.out.2.1; have := H300.out.2.2; have := HM.out.2.1; omega) (by have := H300.out.1; have := H300.out.2.1; have := H300.out.2.2; have := HM.out.2.1; omega) (by have := H300.out.1; have := H300.out.2.1; have := H300.out.2.2; have := HM.out.2.1; omega))
        have HG := Lib.hid hg
        clear hb8 hy8 hg h1 h2 h3
        go_upto_region 34 with (go_at_call 35; (with_reducible refine C.out.mono ?_); rintro e we4 ⟨rfl, ht⟩; have TJ := Lib.hid ht; clear ht e0 e1 e2 e3 e4 e5 e6 e7)
        have htx : Turn No w5 we4 := (T5.out.then TA.out fun i hi e => by have := HZ6.out; omega).then TJ.out fun i hi hx => by
          rcases hx with hx | hx | hx
          · have := HG.out.zk i hx; omega
          · have := HG.out.zv i hx; omega
          · have := HG.out.zd i hx; omega
        replace T5 := Lib.hid htx
        clear htx TJ C HG TA XA XB HY HBY
        have C := Lib.hid (eq_yes ⟨false, K, V, D, high, bnd, ⟨sl, ge⟩⟩ O1 O2 O3 AK AV AD o1 o2 o3 ck cv cd we4 (IO.out.k.no T5.out) (IO.out.v.no T5.out) (IO.out.d.no T5.out) (HI.out _ (HB.out.1.trans (T15.out.trans T5.out))).k (HI.out _ (HB.out.1.trans (T15.out.trans T5.out))).v (HI.out _ (HB.out.1.trans (T15.out.trans T5.out))).d (Nat.le_trans IO.out.lk (by decide)) (Nat.le_trans IO.out.lv (by decide)) (Nat.le_trans IO.out.ld (by decide)))
        simp only at C
        obtain ⟨e0, e1, e2, e3, e4, e5, e6, e7⟩ := at8 (XO.out.no T5.out)
        obtain ⟨c0, c1, c2, c3, c4, c5, c6, c7⟩ := at8 (HC.out _ (T15.out.trans T5.out))
        go_wp2_with (go_at_call 18; (with_reducible refine C.out.mono ?_); rintro e we5 ⟨rfl, ht⟩; have TJ := Lib.hid ht; clear ht e0 e1 e2 e3 e4 e5 e6 e7 c0 c1 c2 c3 c4 c5 c6 c7)
        go_ret
        exact ⟨rfl, HB.out.1.trans (T15.out.trans (T5.out.trans TJ.out))⟩
    · skip
      have C := Lib.hid (split_no ⟨leaf, K, V, D, high, bnd, ⟨sl, ge⟩⟩ O1 O2 O3 o1 o2 o3 nxt w5 IO.out hso)
      simp only at C
      have HNS := Lib.hid hso
      clear hso
      obtain ⟨c0, c1, c2, c3, c4, c5, c6, c7⟩ := at8 XO.out
      obtain ⟨k0, k1⟩ := at2 (HB.out.2.2.no T15.out)
      go_upto_region 7 with (go_at_call 17; (with_reducible refine C.out.mono ?_); rintro e w6 ⟨CK, ek, CV, ev, CD, ed, EK, fk1, EV, fv1, ED, fd1, rfl, hg, ht⟩; have HJ := Lib.hid (And.intro hg ht); clear hg ht c0 c1 c2 c3 c4 c5 c6 c7 k0 k1)
      clear C
      have ta : Turn No w6 (w6.alloc (.cells #[.bool leaf, .slice CK K.length ek, .slice CV V.length ev, .slice CD D.length ed, .string high, .bool bnd, .int .i64 sl, .int .u64 ge] 29)) := (Turn.refl _ _).alloc _
      have tb : Turn No (w6.alloc (.cells #[.bool leaf, .slice CK K.length ek, .slice CV V.length ev, .slice CD D.length ed, .string high, .bool bnd, .int .i64 sl, .int .u64 ge] 29)) ((w6.alloc (.cells #[.bool leaf, .slice CK K.length ek, .slice CV V.length ev, .slice CD D.length ed, .string high, .bool bnd, .int .i64 sl, .int .u64 ge] 29)).alloc (.cells #[.bool false, .slice EK 0 fk1, .slice EV 0 fv1, .slice ED 0 fd1, .string ⟨#[]⟩, .bool false, .int .i64 0, .int .u64 0] 29)) := (Turn.refl _ _).alloc _
      have aR := At.new (w6.alloc (.cells #[.bool leaf, .slice CK K.length ek, .slice CV V.length ev, .slice CD D.length ed, .string high, .bool bnd, .int .i64 sl, .int .u64 ge] 29)) (.cells #[.bool false, .slice EK 0 fk1, .slice EV 0 fv1, .slice ED 0 fd1, .string ⟨#[]⟩, .bool false, .int .i64 0, .int .u64 0] 29)
      rw [World.size_alloc] at aR
      have XA := Lib.hid (And.intro ((At.new w6 (.cells #[.bool leaf, .slice CK K.length ek, .slice CV V.length ev, .slice CD D.length ed, .string high, .bool bnd, .int .i64 sl, .int .u64 ge] 29)).no tb) ((HJ.out.1.no ta).no tb))
      have XB := Lib.hid aR
      have TJ := Lib.hid ((HJ.out.2.trans ta).trans tb)
      clear ta tb aR
      generalize ((w6.alloc (.cells #[.bool leaf, .slice CK K.length ek, .slice CV V.length ev, .slice CD D.length ed, .string high, .bool bnd, .int .i64 sl, .int .u64 ge] 29)).alloc (.cells #[.bool false, .slice EK 0 fk1, .slice EV 0 fv1, .slice ED 0 fd1, .string ⟨#[]⟩, .bool false, .int .i64 0, .int .u64 0] 29)) = w7 at XA XB TJ ⊢
      obtain ⟨r6, hr⟩ : ∃ q, w6.heap.size = q := ⟨_, rfl⟩
      rw [hr] at XA XB
      rw [hr]
      clear hr
      clear HJ XO IO
      have c1 := (HC.out _ (T15.out.trans TJ.out)).cell 1
      simp at c1
      go_upto_region 8 with fail
      clear c1
      obtain ⟨c0, c1, c2, c3, c4, c5, c6, c7⟩ := at8 (HC.out _ (T15.out.trans TJ.out))
      go_cut [44] from 29 to 44 (fun s wx => s = .bool true ∧ Hid (Turn No w7 wx))
      case first =>
        by_cases hr : NdRight ⟨leaf, K, V, D, high, bnd, ⟨sl, ge⟩⟩
        · have C := Lib.hid (lright_yes ⟨leaf, K, V, D, high, bnd, ⟨sl, ge⟩⟩ AK AV AD ck cv cd w7 (HI.out _ (HB.out.1.trans (T15.out.trans TJ.out))) hr)
          simp only at C
          cases leaf with
          | true =>
            have qk : (K.length : Int) < 2 := by
              have : ¬ 2 ≤ K.length := fun h => HNS.out ⟨hr, fun _ => h, fun h => by cases h⟩
              omega
            clear hr
            go_wp2_with (go_at_call 22; (with_reducible refine C.out.mono ?_); rintro e w8 ⟨rfl, ht⟩; have T8 := Lib.hid ht; clear ht c0 c1 c2 c3 c4 c5 c6 c7)
            go_meet
            exact ⟨rfl, T8⟩
          | false =>
            have qk : (K.length : Int) < 3 := by
              have : ¬ 3 ≤ K.length := fun h => HNS.out ⟨hr, fun h => (by cases h), fun _ => h⟩
              omega
            clear hr
            by_cases h2 : K.length < 2
            · have q2 : (K.length : Int) < 2 := by omega
              go_wp2_with (go_at_call 22; (with_reducible refine C.out.mono ?_); rintro e w8 ⟨rfl, ht⟩; have T8 := Lib.hid ht; clear ht c0 c1 c2 c3 c4 c5 c6 c7)
              go_meet
              exact ⟨rfl, T8⟩
            · have q2 : ¬ (K.length : Int) < 2 := by omega
              go_wp2_with (go_at_call 22; (with_reducible refine C.out.mono ?_); rintro e w8 ⟨rfl, ht⟩; have T8 := Lib.hid ht; clear ht c0 c1 c2 c3 c4 c5 c6 c7; have c0 := (HC.out _ (T15.out.trans (TJ.out.trans T8.out))).cell 0; simp at c0)
              go_meet
              exact ⟨rfl, T8⟩
        · have C := Lib.hid (lright_no ⟨leaf, K, V, D, high, bnd, ⟨sl, ge⟩⟩ AK AV AD ck cv cd w7 (HI.out _ (HB.out.1.trans (T15.out.trans TJ.out))) hr)
          simp only at C
          clear hr
          go_wp2_with (go_at_call 22; (with_reducible refine C.out.mono ?_); rintro e w8 ⟨rfl, ht⟩; have T8 := Lib.hid ht; clear ht c0 c1 c2 c3 c4 c5 c6 c7)
          go_meet
          exact ⟨rfl, T8⟩
      obtain ⟨rfl, T8⟩ := hcut
      generalize wc = w8 at T8 ⊢
      clear c0 c1 c2 c3 c4 c5 c6 c7
      have CE1 := Lib.hid (eq_yes ⟨leaf, K, V, D, high, bnd, ⟨sl, ge⟩⟩ CK CV CD AK AV AD ek ev ed ck cv cd w8 (XA.out.2.k.no T8.out) (XA.out.2.v.no T8.out) (XA.out.2.d.no T8.out) (HI.out _ (HB.out.1.trans (T15.out.trans (TJ.out.trans T8.out)))).k (HI.out _ (HB.out.1.trans (T15.out.trans (TJ.out.trans T8.out)))).v (HI.out _ (HB.out.1.trans (T15.out.trans (TJ.out.trans T8.out)))).d (Nat.le_trans XA.out.2.lk (by decide)) (Nat.le_trans XA.out.2.lv (by decide)) (Nat.le_trans XA.out.2.ld (by decide)))
      have CE2 := Lib.hid fun (W : World) => eq_yes nd0 EK EV ED none none none fk1 fv1 fd1 0 0 0 W (Row.nil _ _) (Row.nil _ _) (Row.nil _ _) (Row.nil _ _) (Row.nil _ _) (Row.nil _ _) (by decide) (by decide) (by decide)
      simp only [nd0, List.length_nil] at CE1 CE2
      obtain ⟨c0, c1, c2, c3, c4, c5, c6, c7⟩ := at8 (HC.out _ (T15.out.trans (TJ.out.trans T8.out)))
      obtain ⟨e0, e1, e2, e3, e4, e5, e6, e7⟩ := at8 (XA.out.1.no T8.out)
      go_wp2_with (first | (go_at_call 18; (with_reducible refine CE1.out.mono ?_); rintro e w9 ⟨rfl, ht⟩; have T9 := Lib.hid ht; clear ht c0 c1 c2 c3 c4 c5 c6 c7 e0 e1 e2 e3 e4 e5 e6 e7; obtain ⟨e0, e1, e2, e3, e4, e5, e6, e7⟩ := at8 ((XB.out.no T8.out).no T9.out)) | (go_at_call 18; (with_reducible refine (CE2.out _).mono ?_); rintro e w10 ⟨rfl, ht⟩; have T10 := Lib.hid ht; clear ht))
      go_ret
      exact ⟨rfl, HB.out.1.trans (T15.out.trans (TJ.out.trans (T8.out.trans (T9.out.trans T10.out))))⟩
end Go.Proofs.Ytengbkopihiiaaa
