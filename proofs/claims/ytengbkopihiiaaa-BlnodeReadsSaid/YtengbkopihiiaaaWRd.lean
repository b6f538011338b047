/-
  The law BlnodeReads.
-/
import Derived.Test.YtengbkopihiiaaaWq
import Derived.Test.YtengbkopihiiaaaWKds
namespace Go.Proofs.Ytengbkopihiiaaa
open Go.RowKit Go.Lib
set_option linter.unusedVariables false
set_option maxRecDepth 20000
set_option linter.unusedSimpArgs false

set_option maxRecDepth 100000 in
set_option maxHeartbeats 32000000 in
theorem reads_any (n : Nd) (AK AV AD : Option Addr) (ck cv cd : Nat) (key : ByteArray) (w : World) (hin : InN w n AK AV AD) (fk : Fit key) :
    Calls Try.prog 4 #[.agg #[.bool n.leaf, .slice AK n.keys.length ck, .slice AV n.vals.length cv, .slice AD n.kids.length cd, .string n.high, .bool n.bnd, .int .i64 n.nx.slot, .int .u64 n.nx.gen], .string key] w fun e w' => e = .returned (.bool true) ∧ Turn No w w' := by
  obtain ⟨leaf, K, V, D, high, bnd, ⟨sl, ge⟩⟩ := n
  have CA := Lib.hid fun (W : World) => awake_c W
  have HIn := Lib.hid hin
  have CG := Lib.hid fun (W : World) (t : Turn No w W) => great_any leaf K V.length D.length high bnd sl ge AK AV AD ck cv cd W (HIn.out.k.no t) HIn.out.fk HIn.out.fh HIn.out.lk HIn.out.lv HIn.out.ld
  have HS : Hid (SmallN K V.length D.length high → K.length ≤ 300 ∧ V.length ≤ 300 ∧ D.length ≤ 301 ∧ ∀ W, Turn No w W → In W ⟨leaf, K, V, D, high, bnd, ⟨sl, ge⟩⟩ AK AV AD) := Lib.hid fun hs => ⟨hs.1, hs.2.1, hs.2.2.1, fun W t => ⟨HIn.out.k.no t, HIn.out.v.no t, HIn.out.d.no t, HIn.out.fk, HIn.out.fv, HIn.out.fh, Nat.le_trans hs.1 (by decide), Nat.le_trans hs.2.1 (by decide), Nat.le_trans hs.2.2.1 (by decide)⟩⟩
  have HB := Lib.hid (And.intro ((Turn.refl No w).alloc (.cells #[.bool leaf, .slice AK K.length ck, .slice AV V.length cv, .slice AD D.length cd, .string high, .bool bnd, .int .i64 sl, .int .u64 ge] 29)) (At.new w (.cells #[.bool leaf, .slice AK K.length ck, .slice AV V.length cv, .slice AD D.length cd, .string high, .bool bnd, .int .i64 sl, .int .u64 ge] 29)))
  have hm1 := HIn.out.lk
  have hm2 := HIn.out.ld
  simp only at hm1 hm2 ⊢
  unfold maxLen at hm1 hm2
  have CR := Lib.hid fun (W : World) (h : In W ⟨leaf, K, V, D, high, bnd, ⟨sl, ge⟩⟩ AK AV AD) => right_c ⟨leaf, K, V, D, high, bnd, ⟨sl, ge⟩⟩ AK AV AD ck cv cd W h
  have CC := Lib.hid fun (W : World) (h : In W ⟨leaf, K, V, D, high, bnd, ⟨sl, ge⟩⟩ AK AV AD) => covers_c ⟨leaf, K, V, D, high, bnd, ⟨sl, ge⟩⟩ AK AV AD ck cv cd key W h fk
  have CU := Lib.hid fun (W : World) (h : In W ⟨leaf, K, V, D, high, bnd, ⟨sl, ge⟩⟩ AK AV AD) => full_c ⟨leaf, K, V, D, high, bnd, ⟨sl, ge⟩⟩ AK AV AD ck cv cd W h
  have CK := Lib.hid fun (W : World) (h : In W ⟨leaf, K, V, D, high, bnd, ⟨sl, ge⟩⟩ AK AV AD) => kid_c ⟨leaf, K, V, D, high, bnd, ⟨sl, ge⟩⟩ AK AV AD ck cv cd key W h fk
  have CF := Lib.hid fun (W : World) (h : In W ⟨leaf, K, V, D, high, bnd, ⟨sl, ge⟩⟩ AK AV AD) => findP leaf K V D high bnd sl ge AK AV AD ck cv cd key W h.k (Nat.le_trans h.lk (by decide))
  have CR2 := Lib.hid fun (W : World) (h : In W ⟨leaf, K, V, D, high, bnd, ⟨sl, ge⟩⟩ AK AV AD) => right_any leaf K V.length D.length high bnd sl ge AK AV AD ck cv cd W h.k h.fk h.fh (Nat.le_trans h.lk (by decide))
  have CC2 := Lib.hid fun (W : World) => covers_any ⟨leaf, K, V, D, high, bnd, ⟨sl, ge⟩⟩ key AK AV AD ck cv cd W fk HIn.out.fh
  have CP2 := Lib.hid fun (W : World) (h : In W ⟨leaf, K, V, D, high, bnd, ⟨sl, ge⟩⟩ AK AV AD) => place_any K key AK ck W h.k h.fk fk (Nat.le_trans h.lk (by decide))
  have CI2 := Lib.hid fun (W : World) (h : In W ⟨leaf, K, V, D, high, bnd, ⟨sl, ge⟩⟩ AK AV AD) => rises_any K AK ck W h.k h.fk (Nat.le_trans h.lk (by decide))
  simp only at CR CC CU CK CC2
  obtain ⟨P, hP⟩ : ∃ x, plc K key = x := ⟨_, rfl⟩
  obtain ⟨Q, hQ⟩ : ∃ x, inK K key = x := ⟨_, rfl⟩
  rw [hP, hQ] at CF CP2
  have HPQ := Lib.hid (And.intro hP (And.intro hQ (hP ▸ plc_le K key)))
  clear hP hQ
  have HFk := Lib.hid fk
  unfold Fit at fk
  clear hin
  go_enter Try.func4, Try.ntmps4
  go_upto_region 1 with fail
  generalize w.alloc (.cells #[.bool leaf, .slice AK K.length ck, .slice AV V.length cv, .slice AD D.length cd, .string high, .bool bnd, .int .i64 sl, .int .u64 ge] 29) = w1 at HB ⊢
  generalize w.heap.size = g at HB ⊢
  have HC : Hid (∀ W, Turn No w1 W → At W g (.cells #[.bool leaf, .slice AK K.length ck, .slice AV V.length cv, .slice AD D.length cd, .string high, .bool bnd, .int .i64 sl, .int .u64 ge] 29 (0, 0))) := Lib.hid fun W t => HB.out.2.no t
  go_wp2_with fail
  (with_reducible refine (CA.out _).mono ?_)
  rintro e w2 ⟨rfl, ht⟩
  have T2 := Lib.hid ht
  clear ht
  go_upto_region 3 with fail
  obtain ⟨c0, c1, c2, c3, c4, c5, c6, c7⟩ := at8 (HC.out w2 T2.out)
  go_wp2_with fail
  (with_reducible refine (CG.out _ (HB.out.1.trans T2.out)).mono ?_)
  rintro e w3 ⟨bb, rfl, hb, ht⟩
  have T3 := Lib.hid (T2.out.trans ht)
  have HBB := Lib.hid hb
  clear ht hb c0 c1 c2 c3 c4 c5 c6 c7 T2 CG CA
  cases bb with
  | true =>
    go_wp2_with fail
    go_ret
    exact ⟨rfl, HB.out.1.trans T3.out⟩
  | false =>
    by_cases hl0 : 20000 < key.size
    · have q0 : (20000 : Int) < (key.size : Int) := by omega
      go_wp2_with fail
      go_ret
      exact ⟨rfl, HB.out.1.trans T3.out⟩
    · have q0 : ¬ (20000 : Int) < (key.size : Int) := by omega
      obtain ⟨k300, v300, d300, hI⟩ := HS.out (HBB.out rfl)
      have HI := Lib.hid hI
      have H300 := Lib.hid (And.intro k300 (And.intro v300 d300))
      clear HS HBB hI k300 v300 d300
      obtain ⟨c0, c1, c2, c3, c4, c5, c6, c7⟩ := at8 (HC.out w3 T3.out)
      go_upto_region 5 with fail
      go_wp2_with fail
      (with_reducible refine (CR2.out _ (HI.out _ (HB.out.1.trans T3.out))).mono ?_)
      rintro e w4 ⟨r, rfl, hr, ht⟩
      have T4 := Lib.hid (T3.out.trans ht)
      have HR2 := Lib.hid hr
      clear hr CR2
      clear ht c0 c1 c2 c3 c4 c5 c6 c7 T3
      obtain ⟨c0, c1, c2, c3, c4, c5, c6, c7⟩ := at8 (HC.out w4 T4.out)
      go_upto_region 6 with fail
      go_wp2_with fail
      (with_reducible refine (CC2.out _).mono ?_)
      rintro e w5 ⟨c, rfl, hr, ht⟩
      have T5 := Lib.hid (T4.out.trans ht)
      have HC2 := Lib.hid hr
      clear hr CC2
      clear ht c0 c1 c2 c3 c4 c5 c6 c7 T4
      obtain ⟨c0, c1, c2, c3, c4, c5, c6, c7⟩ := at8 (HC.out w5 T5.out)
      go_upto_region 7 with fail
      go_wp2_with fail
      (with_reducible refine (CF.out _ (HI.out _ (HB.out.1.trans T5.out))).mono ?_)
      rintro e w6 ⟨rfl, ht⟩
      have T6 := Lib.hid (T5.out.trans ht)
      clear CF
      clear ht c0 c1 c2 c3 c4 c5 c6 c7 T5
      obtain ⟨c0, c1, c2, c3, c4, c5, c6, c7⟩ := at8 (HC.out w6 T6.out)
      go_upto_region 8 with fail
      go_wp2_with fail
      (with_reducible refine (CP2.out _ (HI.out _ (HB.out.1.trans T6.out))).mono ?_)
      rintro e w7 ⟨rfl, ht⟩
      have T7 := Lib.hid (T6.out.trans ht)
      clear CP2
      clear ht c0 c1 c2 c3 c4 c5 c6 c7 T6
      obtain ⟨c0, c1, c2, c3, c4, c5, c6, c7⟩ := at8 (HC.out w7 T7.out)
      go_upto_region 9 with fail
      clear c0 c1 c2 c3 c4 c5 c6 c7
      obtain ⟨F, hF⟩ : ∃ F : Bool, (F = true ↔ 4 < K.length) := ⟨decide (4 < K.length), by simp⟩
      have qF : decide ((4 : Int) < (K.length : Int)) = F := by
        rw [Bool.eq_iff_iff, hF, decide_eq_true_iff]
        omega
      have HFF := Lib.hid hF
      clear hF
      go_cut [74] from 40 to 74 (fun s wx => s = .bool false ∧ Hid (Turn No w1 wx))
      case first =>
        have c0 := fun n : Wx w1 => (at8 (HC.out _ n.t)).1
        have c1 := fun n : Wx w1 => (at8 (HC.out _ n.t)).2.1
        have c2 := fun n : Wx w1 => (at8 (HC.out _ n.t)).2.2.1
        have c3 := fun n : Wx w1 => (at8 (HC.out _ n.t)).2.2.2.1
        have c4 := fun n : Wx w1 => (at8 (HC.out _ n.t)).2.2.2.2.1
        have c5 := fun n : Wx w1 => (at8 (HC.out _ n.t)).2.2.2.2.2.1
        have c6 := fun n : Wx w1 => (at8 (HC.out _ n.t)).2.2.2.2.2.2.1
        have c7 := fun n : Wx w1 => (at8 (HC.out _ n.t)).2.2.2.2.2.2.2
        have YR := Lib.hid fun n : Wx w1 => quietB HR2.out (CR.out _ (HI.out _ (HB.out.1.trans n.t)))
        have YC := Lib.hid fun n : Wx w1 => quietB HC2.out (CC.out _ (HI.out _ (HB.out.1.trans n.t)))
        have YU := Lib.hid fun n : Wx w1 => quietB HFF.out (CU.out _ (HI.out _ (HB.out.1.trans n.t)))
        obtain ⟨G, hG⟩ : ∃ G : Bool, (G = true ↔ Rk K) := by
          by_cases h : Rk K
          · exact ⟨true, by simp [h]⟩
          · exact ⟨false, by simp [h]⟩
        have YI := Lib.hid fun n : Wx w1 => quietB hG (CI2.out _ (HI.out _ (HB.out.1.trans n.t)))
        clear hG
        cases G with
        | true =>
          refine wp_region_wx (w0 := w1) (by kernel_rfl) (by kernel_rfl) T7.out ?_
          repeat (go_big_quiet_step (first | (go_at_call 25; with_reducible exact YR.out _) | (go_at_call 26; with_reducible exact YC.out _) | (go_at_call 27; with_reducible exact YU.out _) | (go_at_call 28; with_reducible exact YI.out _)))
          refine wpQuiet_nil ?_
          rintro _ ⟨n, rfl⟩
          go_wp2_with fail
          go_meet
          exact ⟨rfl, Lib.hid n.t⟩
        | false =>
          refine wp_region_wx (w0 := w1) (by kernel_rfl) (by kernel_rfl) T7.out ?_
          repeat (go_big_quiet_step (first | (go_at_call 25; with_reducible exact YR.out _) | (go_at_call 26; with_reducible exact YC.out _) | (go_at_call 27; with_reducible exact YU.out _) | (go_at_call 28; with_reducible exact YI.out _)))
          refine wpQuiet_nil ?_
          rintro _ ⟨n, rfl⟩
          go_wp2_with fail
          go_meet
          exact ⟨rfl, Lib.hid n.t⟩
      case rest =>
        obtain ⟨rfl, HY⟩ := hcut
        generalize wc = w8 at HY ⊢
        clear qF HFF CR CC CU CI2 CK T7
        by_cases hp : NdRight ⟨leaf, K, V, D, high, bnd, ⟨sl, ge⟩⟩ ∧ leaf = false ∧ NdCov ⟨leaf, K, V, D, high, bnd, ⟨sl, ge⟩⟩ key
        · obtain ⟨hr, rfl, hcv⟩ := hp
          obtain ⟨⟨hs, hg⟩, hhk⟩ := kid_there (n := ⟨false, K, V, D, high, bnd, ⟨sl, ge⟩⟩) hr rfl key
          have C := Lib.hid (kid_yes ⟨false, K, V, D, high, bnd, ⟨sl, ge⟩⟩ AK AV AD ck cv cd key w8 (HI.out _ (HB.out.1.trans HY.out)) HFk.out ⟨hr, rfl, hcv⟩ hhk)
          obtain rfl : r = true := HR2.out.2 hr
          obtain rfl : c = true := HC2.out.2 hcv
          have hix : D[P + if Q = true then 1 else 0]? = some ⟨hs, hg⟩ := by
            have h := hhk
            rw [kix_plc hr.1, HPQ.out.1, HPQ.out.2.1] at h
            exact h
          have HX := Lib.hid hix
          clear hr hcv hhk hix
          simp only at C
          obtain ⟨c0, c1, c2, c3, c4, c5, c6, c7⟩ := at8 (HC.out _ HY.out)
          go_upto_region 12 with (go_at_call 15; (with_reducible refine C.out.mono ?_); rintro e w9 ⟨rfl, ht⟩; have HJ := Lib.hid ht; clear ht c0 c1 c2 c3 c4 c5 c6 c7)
          have HK := Lib.hid (At.new w9 (.cells #[.int .i64 hs, .int .u64 hg] 27))
          have T := Lib.hid ((HY.out.trans HJ.out).alloc (.cells #[.int .i64 hs, .int .u64 hg] 27))
          clear HJ C HY
          generalize (w9.alloc (.cells #[.int .i64 hs, .int .u64 hg] 27)) = w10 at HK T ⊢
          obtain ⟨r11, hr⟩ : ∃ q, w9.heap.size = q := ⟨_, rfl⟩
          rw [hr] at HK
          rw [hr]
          clear hr
          have qq := eql_same hs hg
          obtain ⟨c0, c1, c2, c3, c4, c5, c6, c7⟩ := at8 (HC.out _ T.out)
          obtain ⟨k0, k1⟩ := at2 HK.out
          cases Q with
          | false =>
            have hix := HX.out
            simp only [if_neg Bool.false_ne_true, Nat.add_zero] at hix
            obtain ⟨ab, ao, hA, x0, x1⟩ := Row.hn (HI.out _ (HB.out.1.trans T.out)).d (j := P) (x := ⟨hs, hg⟩) hix
            have hIl : P < D.length := (List.getElem?_eq_some_iff.1 hix).1
            have hq1 : (0 : Int) ≤ (P : Int) := by omega
            have hq2 : (P : Int) < (D.length : Int) := by omega
            have q3 := H300.out.2.2
            rw [hA] at c3
            clear hA hix HX
            go_upto_region 18 with fail
            go_region
            all_goals go_wp2_with fail
            all_goals go_ret
            all_goals exact ⟨rfl, HB.out.1.trans (T.out.trans (Turn.refl No w10).drew)⟩
          | true =>
            have hix := HX.out
            simp only [if_true] at hix
            obtain ⟨ab, ao, hA, x0, x1⟩ := Row.hn (HI.out _ (HB.out.1.trans T.out)).d (j := P + 1) (x := ⟨hs, hg⟩) hix
            have hIl : P + 1 < D.length := (List.getElem?_eq_some_iff.1 hix).1
            have hq1 : (0 : Int) ≤ ((P : Int) + 1) := by omega
            have hq2 : ((P : Int) + 1) < (D.length : Int) := by omega
            have q3 := H300.out.2.2
            rw [hA] at c3
            clear hA hix HX
            go_upto_region 18 with fail
            go_region
            all_goals go_wp2_with fail
            all_goals go_ret
            all_goals exact ⟨rfl, HB.out.1.trans (T.out.trans (Turn.refl No w10).drew)⟩
        · have C := Lib.hid (kid_no ⟨leaf, K, V, D, high, bnd, ⟨sl, ge⟩⟩ AK AV AD ck cv cd key w8 (HI.out _ (HB.out.1.trans HY.out)) HFk.out hp)
          have h1 := HR2.out
          have h2 := HC2.out
          have HPX : Hid (r = false ∨ (r = true ∧ c = false) ∨ (r = true ∧ c = true ∧ leaf = true)) := Lib.hid (by
            cases r with
            | false => exact Or.inl rfl
            | true => cases c with
              | false => exact Or.inr (Or.inl ⟨rfl, rfl⟩)
              | true => cases leaf with
                | true => exact Or.inr (Or.inr ⟨rfl, rfl, rfl⟩)
                | false => exact absurd ⟨h1.1 rfl, rfl, h2.1 rfl⟩ hp)
          clear h1 h2 hp
          rcases HPX.out with rfl | ⟨rfl, rfl⟩ | ⟨rfl, rfl, rfl⟩
          · simp only at C
            obtain ⟨c0, c1, c2, c3, c4, c5, c6, c7⟩ := at8 (HC.out _ HY.out)
            go_upto_region 12 with (go_at_call 15; (with_reducible refine C.out.mono ?_); rintro e w9 ⟨rfl, ht⟩; have HJ := Lib.hid ht; clear ht c0 c1 c2 c3 c4 c5 c6 c7)
            have HK := Lib.hid (At.new w9 (.cells #[.int .i64 0, .int .u64 0] 27))
            have T := Lib.hid ((HY.out.trans HJ.out).alloc (.cells #[.int .i64 0, .int .u64 0] 27))
            clear HJ C HY
            generalize (w9.alloc (.cells #[.int .i64 0, .int .u64 0] 27)) = w10 at HK T ⊢
            obtain ⟨r11, hr⟩ : ∃ q, w9.heap.size = q := ⟨_, rfl⟩
            rw [hr] at HK
            rw [hr]
            clear hr
            have qq := eql_same 0 0
            obtain ⟨c0, c1, c2, c3, c4, c5, c6, c7⟩ := at8 (HC.out _ T.out)
            obtain ⟨k0, k1⟩ := at2 HK.out
            go_wp2_with fail
            go_ret
            exact ⟨rfl, HB.out.1.trans T.out⟩
          · simp only at C
            obtain ⟨c0, c1, c2, c3, c4, c5, c6, c7⟩ := at8 (HC.out _ HY.out)
            go_upto_region 12 with (go_at_call 15; (with_reducible refine C.out.mono ?_); rintro e w9 ⟨rfl, ht⟩; have HJ := Lib.hid ht; clear ht c0 c1 c2 c3 c4 c5 c6 c7)
            have HK := Lib.hid (At.new w9 (.cells #[.int .i64 0, .int .u64 0] 27))
            have T := Lib.hid ((HY.out.trans HJ.out).alloc (.cells #[.int .i64 0, .int .u64 0] 27))
            clear HJ C HY
            generalize (w9.alloc (.cells #[.int .i64 0, .int .u64 0] 27)) = w10 at HK T ⊢
            obtain ⟨r11, hr⟩ : ∃ q, w9.heap.size = q := ⟨_, rfl⟩
            rw [hr] at HK
            rw [hr]
            clear hr
            have qq := eql_same 0 0
            obtain ⟨c0, c1, c2, c3, c4, c5, c6, c7⟩ := at8 (HC.out _ T.out)
            obtain ⟨k0, k1⟩ := at2 HK.out
            go_wp2_with fail
            go_ret
            exact ⟨rfl, HB.out.1.trans T.out⟩
          · simp only at C
            obtain ⟨c0, c1, c2, c3, c4, c5, c6, c7⟩ := at8 (HC.out _ HY.out)
            go_upto_region 12 with (go_at_call 15; (with_reducible refine C.out.mono ?_); rintro e w9 ⟨rfl, ht⟩; have HJ := Lib.hid ht; clear ht c0 c1 c2 c3 c4 c5 c6 c7)
            have HK := Lib.hid (At.new w9 (.cells #[.int .i64 0, .int .u64 0] 27))
            have T := Lib.hid ((HY.out.trans HJ.out).alloc (.cells #[.int .i64 0, .int .u64 0] 27))
            clear HJ C HY
            generalize (w9.alloc (.cells #[.int .i64 0, .int .u64 0] 27)) = w10 at HK T ⊢
            obtain ⟨r11, hr⟩ : ∃ q, w9.heap.size = q := ⟨_, rfl⟩
            rw [hr] at HK
            rw [hr]
            clear hr
            have qq := eql_same 0 0
            obtain ⟨c0, c1, c2, c3, c4, c5, c6, c7⟩ := at8 (HC.out _ T.out)
            obtain ⟨k0, k1⟩ := at2 HK.out
            go_wp2_with fail
            go_ret
            exact ⟨rfl, HB.out.1.trans T.out⟩
end Go.Proofs.Ytengbkopihiiaaa
