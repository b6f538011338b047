/-
  The law BlnodeKids.
-/
import Derived.Test.YtengbkopihiiaaaSl
namespace Go.Proofs.Ytengbkopihiiaaa
open Go.RowKit Go.Lib
set_option linter.unusedVariables false
set_option maxRecDepth 20000
set_option linter.unusedSimpArgs false

theorem in_add {w : World} {Z : Nat} {leaf : Bool} {K V : List ByteArray} {D : List Hn} {high : ByteArray} {bnd : Bool} {nx kid : Hn} {sep : ByteArray} {w0 : World} {AK AV AD BK BV BD : Option Addr} (h : In w0 ⟨leaf, K, V, D, high, bnd, nx⟩ AK AV AD) (k3 : K.length ≤ 9000) (d3 : D.length ≤ 9000) (fs : Fit sep) (hi : plc K sep + 1 ≤ D.length) (g : Got Z w ⟨leaf, ins K (plc K sep) sep, V, ins D (plc K sep + 1) kid, high, bnd, nx⟩ BK BV BD) : In w ⟨leaf, ins K (plc K sep) sep, V, ins D (plc K sep + 1) kid, high, bnd, nx⟩ BK BV BD :=
  ⟨g.k, g.v, g.d, fun k hk => (mem_ins.1 hk).elim (fun e => e ▸ fs) (h.fk k), h.fv, h.fh, by show (ins K (plc K sep) sep).length ≤ 10000; rw [ins_length K (plc_le K sep)]; omega, h.lv, by show (ins D (plc K sep + 1) kid).length ≤ 10000; rw [ins_length D hi]; omega⟩
theorem rk_take_low {K : List ByteArray} (h : Rk K) {i : Nat} {y q : ByteArray} (hy : K[i]? = some y) (h1 : ∀ x ∈ K.take i, ¬ kl q x) (h2 : kl q y) : kix K q = i := by
  obtain ⟨e, ha, hb⟩ := half_cut h hy
  have hl := (List.getElem?_eq_some_iff.1 hy).1
  conv => lhs; rw [e]
  rw [kix_append, kix_all h1, kix_none (A := y :: K.drop (i + 1)) fun x hx => (List.mem_cons.1 hx).elim (fun e => e ▸ h2) fun hx => kl_trans h2 (hb x hx), List.length_take]
  omega
/-- The least key above one. -/
def Abv (K : List ByteArray) (sep nxt : ByteArray) : Prop := nxt ∈ K ∧ kl sep nxt ∧ ∀ x ∈ K, kl sep x → ¬ kl x nxt
theorem abv_of {K : List ByteArray} (h : Rk K) {i : Nat} {y sep : ByteArray} (hy : K[i]? = some y) (h1 : ∀ x ∈ K.take i, ¬ kl sep x) (h2 : kl sep y) : Abv K sep y := by
  obtain ⟨e, ha, hb⟩ := half_cut h hy
  refine ⟨List.mem_of_getElem? hy, h2, fun x hx hs => ?_⟩
  rw [e] at hx
  rcases List.mem_append.1 hx with h3 | h3
  · exact absurd hs (h1 x h3)
  · rcases List.mem_cons.1 h3 with h4 | h4
    · rw [h4]; exact kl_irrefl y
    · exact kl_asymm (hb x h4)
theorem abv_all {K : List ByteArray} {sep nxt key : ByteArray} (h : Abv K sep nxt) : (∀ x ∈ K, kl sep x → kl key x) ↔ kl key nxt :=
  ⟨fun hh => hh nxt h.1 h.2.1, fun hh x hx hs => kl_lt_le hh (h.2.2 x hx hs)⟩
theorem at2 {w : World} {g : Nat} {v0 v1 : Value} {t : TypeId} {f : Nat × Nat} (h : At w g (.cells #[v0, v1] t f)) : w.cell? ⟨g, 0, none⟩ = some v0 ∧ w.cell? ⟨g, 1, none⟩ = some v1 := ⟨h.cell 0, h.cell 1⟩
theorem neq_same (s g : Int) : ∀ w : World, (binOp .neq 27 (.agg #[.int .i64 s, .int .u64 g]) (.agg #[.int .i64 s, .int .u64 g])).run Try.prog w = .ok (.bool false) w := fun w => by
  have := neq_hn s s g g w
  rw [hnEq_same] at this
  exact this
theorem eql_same (s g : Int) : ∀ w : World, (binOp .eql 27 (.agg #[.int .i64 s, .int .u64 g]) (.agg #[.int .i64 s, .int .u64 g])).run Try.prog w = .ok (.bool true) w := fun w => by
  have := eql_hn s s g g w
  rw [hnEq_same] at this
  exact this
set_option maxRecDepth 100000 in
set_option maxHeartbeats 32000000 in
theorem kids_any (n : Nd) (AK AV AD : Option Addr) (ck cv cd : Nat) (sep key : ByteArray) (kid : Hn) (w : World) (hin : InN w n AK AV AD) (fs : Fit sep) (fk : Fit key) :
    Calls Try.prog 9 #[.agg #[.bool n.leaf, .slice AK n.keys.length ck, .slice AV n.vals.length cv, .slice AD n.kids.length cd, .string n.high, .bool n.bnd, .int .i64 n.nx.slot, .int .u64 n.nx.gen], .string sep, .string key, .agg #[.int .i64 kid.slot, .int .u64 kid.gen]] w fun e w' => e = .returned (.bool true) ∧ Turn No w w' := by
  obtain ⟨leaf, K, V, D, high, bnd, ⟨sl, ge⟩⟩ := n
  have CA := Lib.hid fun (W : World) => awake_c W
  have HIn := Lib.hid hin
  have CG := Lib.hid fun (W : World) (t : Turn No w W) => great_any leaf K V.length D.length high bnd sl ge AK AV AD ck cv cd W (HIn.out.k.no t) HIn.out.fk HIn.out.fh HIn.out.lk HIn.out.lv HIn.out.ld
  have HS : Hid (SmallN K V.length D.length high → K.length ≤ 300 ∧ V.length ≤ 300 ∧ D.length ≤ 301 ∧ ∀ W, Turn No w W → In W ⟨leaf, K, V, D, high, bnd, ⟨sl, ge⟩⟩ AK AV AD) := Lib.hid fun hs => ⟨hs.1, hs.2.1, hs.2.2.1, fun W t => ⟨HIn.out.k.no t, HIn.out.v.no t, HIn.out.d.no t, HIn.out.fk, HIn.out.fv, HIn.out.fh, Nat.le_trans hs.1 (by decide), Nat.le_trans hs.2.1 (by decide), Nat.le_trans hs.2.2.1 (by decide)⟩⟩
  have t1 : Turn No w (w.alloc (.cells #[.bool leaf, .slice AK K.length ck, .slice AV V.length cv, .slice AD D.length cd, .string high, .bool bnd, .int .i64 sl, .int .u64 ge] 29)) := (Turn.refl _ _).alloc _
  have t2 : Turn No (w.alloc (.cells #[.bool leaf, .slice AK K.length ck, .slice AV V.length cv, .slice AD D.length cd, .string high, .bool bnd, .int .i64 sl, .int .u64 ge] 29)) ((w.alloc (.cells #[.bool leaf, .slice AK K.length ck, .slice AV V.length cv, .slice AD D.length cd, .string high, .bool bnd, .int .i64 sl, .int .u64 ge] 29)).alloc (.cells #[.int .i64 kid.slot, .int .u64 kid.gen] 27)) := (Turn.refl _ _).alloc _
  have a1 := (At.new w (.cells #[.bool leaf, .slice AK K.length ck, .slice AV V.length cv, .slice AD D.length cd, .string high, .bool bnd, .int .i64 sl, .int .u64 ge] 29)).no t2
  have a2 := At.new (w.alloc (.cells #[.bool leaf, .slice AK K.length ck, .slice AV V.length cv, .slice AD D.length cd, .string high, .bool bnd, .int .i64 sl, .int .u64 ge] 29)) (.cells #[.int .i64 kid.slot, .int .u64 kid.gen] 27)
  rw [World.size_alloc] at a2
  have HB : Hid (Turn No w ((w.alloc (.cells #[.bool leaf, .slice AK K.length ck, .slice AV V.length cv, .slice AD D.length cd, .string high, .bool bnd, .int .i64 sl, .int .u64 ge] 29)).alloc (.cells #[.int .i64 kid.slot, .int .u64 kid.gen] 27)) ∧ At ((w.alloc (.cells #[.bool leaf, .slice AK K.length ck, .slice AV V.length cv, .slice AD D.length cd, .string high, .bool bnd, .int .i64 sl, .int .u64 ge] 29)).alloc (.cells #[.int .i64 kid.slot, .int .u64 kid.gen] 27)) w.heap.size (.cells #[.bool leaf, .slice AK K.length ck, .slice AV V.length cv, .slice AD D.length cd, .string high, .bool bnd, .int .i64 sl, .int .u64 ge] 29 (0, 0)) ∧ At ((w.alloc (.cells #[.bool leaf, .slice AK K.length ck, .slice AV V.length cv, .slice AD D.length cd, .string high, .bool bnd, .int .i64 sl, .int .u64 ge] 29)).alloc (.cells #[.int .i64 kid.slot, .int .u64 kid.gen] 27)) (w.heap.size + 1) (.cells #[.int .i64 kid.slot, .int .u64 kid.gen] 27 (0, 0))) := Lib.hid ⟨t1.trans t2, a1, a2⟩
  clear t1 t2 a1 a2
  have hm1 := HIn.out.lk
  have hm2 := HIn.out.ld
  simp only at hm1 hm2 ⊢
  unfold maxLen at hm1 hm2
  have CR := Lib.hid fun (W : World) (h : In W ⟨leaf, K, V, D, high, bnd, ⟨sl, ge⟩⟩ AK AV AD) => right_c ⟨leaf, K, V, D, high, bnd, ⟨sl, ge⟩⟩ AK AV AD ck cv cd W h
  have CC := Lib.hid fun (W : World) (h : In W ⟨leaf, K, V, D, high, bnd, ⟨sl, ge⟩⟩ AK AV AD) => covers_c ⟨leaf, K, V, D, high, bnd, ⟨sl, ge⟩⟩ AK AV AD ck cv cd key W h fk
  simp only at CR CC
  have HF := Lib.hid (And.intro fs fk)
  unfold Fit at fs fk
  clear hin
  go_enter Try.func9, Try.ntmps9
  go_upto_region 1 with fail
  generalize ((w.alloc (.cells #[.bool leaf, .slice AK K.length ck, .slice AV V.length cv, .slice AD D.length cd, .string high, .bool bnd, .int .i64 sl, .int .u64 ge] 29)).alloc (.cells #[.int .i64 kid.slot, .int .u64 kid.gen] 27)) = w1 at HB ⊢
  generalize w.heap.size = g at HB ⊢
  have HC : Hid (∀ W, Turn No w1 W → At W g (.cells #[.bool leaf, .slice AK K.length ck, .slice AV V.length cv, .slice AD D.length cd, .string high, .bool bnd, .int .i64 sl, .int .u64 ge] 29 (0, 0))) := Lib.hid fun W t => HB.out.2.1.no t
  go_wp2_with fail
  (with_reducible refine (CA.out _).mono ?_)
  rintro e w2 ⟨rfl, ht⟩
  have T2 := Lib.hid ht
  clear ht
  go_upto_region 3 with fail
  obtain ⟨c0, c1, c2, c3, c4, c5, c6, c7⟩ := at8 (HC.out w2 T2.out)
  go_wp2_with fail
  (with_reducible refine (CG.out _ (HB.out.1.trans T2.out)).mono ?_)
  rintro e w3 ⟨bb, rfl, hb, ht⟩
  have T3 := Lib.hid (T2.out.trans ht)
  have HBB := Lib.hid hb
  clear ht hb c0 c1 c2 c3 c4 c5 c6 c7 T2 CG CA
  cases bb with
  | true =>
    go_wp2_with fail
    go_ret
    exact ⟨rfl, HB.out.1.trans T3.out⟩
  | false =>
    by_cases hl0 : 2000 < sep.size
    · have q0 : (2000 : Int) < (sep.size : Int) := by omega
      go_wp2_with fail
      go_ret
      exact ⟨rfl, HB.out.1.trans T3.out⟩
    · have q0 : ¬ (2000 : Int) < (sep.size : Int) := by omega
      by_cases hl1 : 2000 < key.size
      · have q1 : (2000 : Int) < (key.size : Int) := by omega
        go_wp2_with fail
        go_ret
        exact ⟨rfl, HB.out.1.trans T3.out⟩
      · have q1 : ¬ (2000 : Int) < (key.size : Int) := by omega
        obtain ⟨k300, v300, d300, hI⟩ := HS.out (HBB.out rfl)
        have HI := Lib.hid hI
        have H300 := Lib.hid (And.intro k300 (And.intro v300 d300))
        clear HS HBB hI k300 v300 d300
        obtain ⟨c0, c1, c2, c3, c4, c5, c6, c7⟩ := at8 (HC.out w3 T3.out)
        go_upto_region 5 with fail
        by_cases hp : NdRight ⟨leaf, K, V, D, high, bnd, ⟨sl, ge⟩⟩ ∧ leaf = false ∧ NdCov ⟨leaf, K, V, D, high, bnd, ⟨sl, ge⟩⟩ key
        · obtain ⟨hr, rfl, hcv⟩ := hp
          obtain ⟨hh, hhk⟩ := kid_there (n := ⟨false, K, V, D, high, bnd, ⟨sl, ge⟩⟩) hr rfl key
          have HN := Lib.hid (And.intro hr (And.intro hcv hhk))
          have CK := Lib.hid (kid_yes ⟨false, K, V, D, high, bnd, ⟨sl, ge⟩⟩ AK AV AD ck cv cd key w3 (HI.out _ (HB.out.1.trans T3.out)) HF.out.2 ⟨hr, rfl, hcv⟩ hhk)
          simp only at CK
          go_upto_region 6 with (go_at_call 15; (with_reducible refine CK.out.mono ?_); rintro e w4 ⟨rfl, ht⟩; have H4 := Lib.hid (T3.out.trans ht); clear ht c0 c1 c2 c3 c4 c5 c6 c7)
          have T5 : Hid (Turn No w1 (w4.alloc (.cells #[.int .i64 hh.slot, .int .u64 hh.gen] 27))) := Lib.hid (H4.out.alloc _)
          have HK5 : Hid (At (w4.alloc (.cells #[.int .i64 hh.slot, .int .u64 hh.gen] 27)) w4.heap.size (.cells #[.int .i64 hh.slot, .int .u64 hh.gen] 27 (0, 0))) := Lib.hid (At.new _ _)
          clear CK H4 T3
          generalize (w4.alloc (.cells #[.int .i64 hh.slot, .int .u64 hh.gen] 27)) = w5 at T5 HK5 ⊢
          clear hr hcv hhk
          generalize w4.heap.size = r9 at HK5 ⊢
          have k0 := HK5.out.cell 0
          have k1 := HK5.out.cell 1
          simp at k0 k1
          have qn := neq_same hh.slot hh.gen
          obtain ⟨c0, c1, c2, c3, c4, c5, c6, c7⟩ := at8 (HC.out w5 T5.out)
          have CRY := Lib.hid fun (W : World) (t : Turn No w1 W) => right_yes ⟨false, K, V, D, high, bnd, ⟨sl, ge⟩⟩ AK AV AD ck cv cd W (HI.out _ (HB.out.1.trans t)) HN.out.1
          have CCY := Lib.hid fun (W : World) (t : Turn No w1 W) => covers_yes ⟨false, K, V, D, high, bnd, ⟨sl, ge⟩⟩ AK AV AD ck cv cd key W (HI.out _ (HB.out.1.trans t)) HF.out.2 HN.out.2.1
          simp only at CRY CCY
          have HKC : Hid (∀ W, Turn No w5 W → At W r9 (.cells #[.int .i64 hh.slot, .int .u64 hh.gen] 27 (0, 0))) := Lib.hid fun W t => HK5.out.no t
          go_upto_region 10 with (first | (go_at_call 25; (with_reducible refine (CRY.out _ T5.out).mono ?_); rintro e w6 ⟨rfl, ht⟩; have T6 := Lib.hid (T5.out.trans ht); have U6 := Lib.hid ht; clear ht c0 c1 c2 c3 c4 c5 c6 c7; obtain ⟨c0, c1, c2, c3, c4, c5, c6, c7⟩ := at8 (HC.out w6 T6.out)) | (go_at_call 26; (with_reducible refine (CCY.out _ T6.out).mono ?_); rintro e w7 ⟨rfl, ht⟩; have T7 := Lib.hid (T6.out.trans ht); have U7 := Lib.hid (U6.out.trans ht); clear ht c0 c1 c2 c3 c4 c5 c6 c7))
          clear k0 k1 CRY CCY CR CC HK5 T5 T6 U6
          go_upto_block 0 with fail
          have HKX : Hid (∀ x, Rk K → kix K x = kix K x) := Lib.hid fun _ _ => rfl
          obtain ⟨I, hI⟩ : ∃ q, kix K key = q := ⟨_, rfl⟩
          have HII := Lib.hid hI
          clear hI HKX
          go_cut [11] from 65 to 80 (fun s wx => s = .int .i64 (I : Int) ∧ wx = w7)
          case first =>
            go_wp2_with fail
            go_loopw [11] (fun x wr => ∃ i : Nat, i ≤ K.length ∧ x = .int .i64 (i : Int) ∧ wr = w7 ∧ Hid (∀ y ∈ K.take i, ¬ kl key y)) (fun x _ => K.length - (RowKit.intOf x).toNat)
            case atStart => exact ⟨0, Nat.zero_le _, rfl, rfl, Lib.hid (by simp)⟩
            case round =>
              obtain ⟨i, hi, rfl, rfl, HP⟩ := hrel
              have c1 := (HC.out _ T7.out).cell 1
              simp at c1
              by_cases hlt : i < K.length
              · obtain ⟨y, hy⟩ : ∃ t, K[i]? = some t := ⟨K[i], List.getElem?_eq_getElem hlt⟩
                obtain ⟨b, o, hB, hc⟩ := kcs_hold (HI.out _ (HB.out.1.trans T7.out)).k hy
                have x0 := hc _ (Turn.refl _ _)
                have HY := Lib.hid hy
                have HSN := Lib.hid (all_snoc (Q := fun k => ¬ kl key k) hy)
                rw [hB] at c1
                clear hy hc hB
                have hq1 : (0 : Int) ≤ (i : Int) := by omega
                have hq2 : (i : Int) < (K.length : Int) := by omega
                have ql := sless y key
                have qe := bytes_beq y key
                rcases kl_tri y key with h1 | h1 | h1
                · have HNX := Lib.hid (HSN.out.2 ⟨HP.out, kl_asymm h1⟩)
                  rw [decide_eq_true h1] at ql
                  rw [decide_eq_false (kl_ne h1)] at qe
                  clear h1
                  go_wp2_with fail
                  exact ⟨⟨i + 1, by omega, by go_num, by first | rfl | trivial, HNX⟩, by simp [RowKit.intOf]; omega⟩
                · have HNX := Lib.hid (HSN.out.2 ⟨HP.out, h1 ▸ kl_irrefl _⟩)
                  rw [decide_eq_false (h1 ▸ kl_irrefl _)] at ql
                  rw [decide_eq_true h1] at qe
                  clear h1
                  go_wp2_with fail
                  exact ⟨⟨i + 1, by omega, by go_num, by first | rfl | trivial, HNX⟩, by simp [RowKit.intOf]; omega⟩
                · obtain rfl : i = I := by rw [← HII.out]; exact (rk_take_low HN.out.1.1 HY.out HP.out h1).symm
                  rw [decide_eq_false (kl_asymm h1)] at ql
                  rw [decide_eq_false (fun e => kl_ne h1 e.symm)] at qe
                  clear h1
                  go_wp2_with fail
                  go_meet
                  exact ⟨rfl, rfl⟩
              · obtain rfl : i = K.length := by omega
                have hE : K.length = I := by
                  have := HP.out
                  rw [List.take_length] at this
                  rw [← HII.out, kix_all this]
                have hq2 : ¬ (K.length : Int) < (K.length : Int) := by omega
                have HEE := Lib.hid hE
                clear hE
                go_wp2_with fail
                go_meet
                exact ⟨by rw [HEE.out], rfl⟩
          case rest =>
            obtain ⟨rfl, hwc⟩ := hcut
            subst hwc
            generalize wc = w7 at T7 U7 ⊢
            go_upto_region 13 with fail
            obtain ⟨ab, ao, hA, x0, x1⟩ := Row.hn (HI.out _ (HB.out.1.trans T7.out)).d (j := I) (x := hh) (by rw [← HII.out]; exact HN.out.2.2)
            have hIl : I < D.length := by
              have := HN.out.2.2
              rw [HII.out] at this
              exact (List.getElem?_eq_some_iff.1 this).1
            have c3 := (HC.out _ T7.out).cell 3
            simp at c3
            rw [hA] at c3
            obtain ⟨k0, k1⟩ := at2 (HKC.out _ U7.out)
            have hq1 : (0 : Int) ≤ (I : Int) := by omega
            have hq2 : (I : Int) < (D.length : Int) := by omega
            clear hA hIl
            go_cut [87] from 81 to 87 (fun s wx => s = .bool false ∧ Hid (Turn No w7 wx))
            case first =>
              go_region
              all_goals go_wp2_with fail
              all_goals go_meet
              all_goals exact ⟨rfl, Lib.hid (Turn.refl No w7).drew⟩
            case rest =>
              obtain ⟨rfl, T8⟩ := hcut
              generalize wc = w8 at T8 ⊢
              have T9 := Lib.hid (T7.out.trans T8.out)
              have HKC2 : Hid (∀ W, Turn No w8 W → At W r9 (.cells #[.int .i64 hh.slot, .int .u64 hh.gen] 27 (0, 0))) := Lib.hid fun W t => HKC.out W ((U7.out.trans T8.out).trans t)
              clear x0 x1 c3 k0 k1 hq1 hq2 HKC
              obtain ⟨P, hP⟩ : ∃ q, plc K sep = q := ⟨_, rfl⟩
              obtain ⟨Q, hQ⟩ : ∃ q, inK K sep = q := ⟨_, rfl⟩
              have HPQ := Lib.hid (And.intro hP hQ)
              have cf := findP false K V D high bnd sl ge AK AV AD ck cv cd sep w8 (HI.out _ (HB.out.1.trans T9.out)).k (Nat.le_trans H300.out.1 (by decide))
              rw [hP, hQ] at cf
              have CF := Lib.hid cf
              clear cf hP hQ
              obtain ⟨c0, c1, c2, c3, c4, c5, c6, c7⟩ := at8 (HC.out _ T9.out)
              go_upto_region 15 with fail
              go_upto_region 16 with (go_at_call 11; (with_reducible refine CF.out.mono ?_); rintro e w9 ⟨rfl, ht⟩; have T10 := Lib.hid (T9.out.trans ht); have U10 := Lib.hid ht; clear ht c0 c1 c2 c3 c4 c5 c6 c7)
              have HCK : Hid (∀ W, Turn No w9 W → W.cell? ⟨g + 1, 0, none⟩ = some (.int .i64 kid.slot) ∧ W.cell? ⟨g + 1, 1, none⟩ = some (.int .u64 kid.gen)) := Lib.hid fun W t => at2 (HB.out.2.2.no (T10.out.trans t))
              obtain ⟨c0, c1, c2, c3, c4, c5, c6, c7⟩ := at8 (HC.out _ T10.out)
              obtain ⟨k0, k1⟩ := HCK.out _ (Turn.refl _ _)
              clear CF
              have HINN := Lib.hid (HI.out _ (HB.out.1.trans T10.out))
              by_cases ho : AddO ⟨false, K, V, D, high, bnd, ⟨sl, ge⟩⟩ sep
              · have HO := Lib.hid ho
                obtain ⟨K1, hK1⟩ : ∃ q, ins K (plc K sep) sep = q := ⟨_, rfl⟩
                obtain ⟨D1, hD1⟩ : ∃ q, ins D (plc K sep + 1) kid = q := ⟨_, rfl⟩
                have HKD := Lib.hid (And.intro hK1 hD1)
                have CA := Lib.hid (add_yes ck cv cd HINN.out HF.out.1 ho hK1 hD1)
                obtain rfl : Q = false := by rw [← HPQ.out.2]; exact inK_no.2 ho.2.2.2
                clear ho hK1 hD1
                go_upto_region 17 with (go_at_call 16; (with_reducible refine CA.out.mono ?_); rintro e w10 ⟨BK, dk, BV, dv, BD, dd, rfl, hg, ht⟩; have HJ := Lib.hid (And.intro hg ht); clear hg ht c0 c1 c2 c3 c4 c5 c6 c7 k0 k1)
                have hIm : In w10 ⟨false, K1, V, D1, high, bnd, ⟨sl, ge⟩⟩ BK BV BD := by
                  have h := HJ.out.1
                  have hl : plc K sep + 1 ≤ D.length := by have := plc_le K sep; have := (HN.out.1.2.2.2.2 rfl).2; show _ ≤ D.length; have e : D.length = K.length + 1 := (HN.out.1.2.2.2.2 rfl).2; omega
                  rw [← HKD.out.1, ← HKD.out.2] at h ⊢
                  exact in_add HINN.out (by have := H300.out.1; omega) (by have := H300.out.2.2; omega) HF.out.1 hl h
                have X := Lib.hid (And.intro (At.new w10 (.cells #[.bool false, .slice BK K1.length dk, .slice BV V.length dv, .slice BD D1.length dd, .string high, .bool bnd, .int .i64 sl, .int .u64 ge] 29)) (hIm.no ((Turn.refl No w10).alloc (.cells #[.bool false, .slice BK K1.length dk, .slice BV V.length dv, .slice BD D1.length dd, .string high, .bool bnd, .int .i64 sl, .int .u64 ge] 29))))
                have TJ := Lib.hid (HJ.out.2.alloc (.cells #[.bool false, .slice BK K1.length dk, .slice BV V.length dv, .slice BD D1.length dd, .string high, .bool bnd, .int .i64 sl, .int .u64 ge] 29))
                clear CA HJ hIm
                generalize (w10.alloc (.cells #[.bool false, .slice BK K1.length dk, .slice BV V.length dv, .slice BD D1.length dd, .string high, .bool bnd, .int .i64 sl, .int .u64 ge] 29)) = w11 at X TJ ⊢
                obtain ⟨r14, hr⟩ : ∃ q, w10.heap.size = q := ⟨_, rfl⟩
                rw [hr] at X
                rw [hr]
                clear hr
                have T11 := Lib.hid (T10.out.trans TJ.out)
                have U11 := Lib.hid (U10.out.trans TJ.out)
                obtain ⟨c0, c1, c2, c3, c4, c5, c6, c7⟩ := at8 (HC.out _ T11.out)
                have CCS := Lib.hid (covers_yes ⟨false, K, V, D, high, bnd, ⟨sl, ge⟩⟩ AK AV AD ck cv cd sep w11 (HI.out _ (HB.out.1.trans T11.out)) HF.out.1 HO.out.2.2.1)
                simp only at CCS
                go_upto_region 19 with (go_at_call 26; (with_reducible refine CCS.out.mono ?_); rintro e w12 ⟨rfl, ht⟩; have T12 := Lib.hid ht; clear ht c0 c1 c2 c3 c4 c5 c6 c7)
                clear CCS TJ
                replace X := Lib.hid (And.intro (X.out.1.no T12.out) (X.out.2.no T12.out))
                replace T11 := Lib.hid (T11.out.trans T12.out)
                replace U11 := Lib.hid (U11.out.trans T12.out)
                clear T12
                have hR1 : NdRight ⟨false, K1, V, D1, high, bnd, ⟨sl, ge⟩⟩ := by
                  have := right_add (kid := kid) HO.out
                  rw [HKD.out.1, HKD.out.2] at this
                  exact this
                obtain ⟨gk, hgk⟩ : ∃ gk : Hn, (if ¬ kl key sep ∧ ∀ x ∈ K, kl sep x → kl key x then kid else hh) = gk := ⟨_, rfl⟩
                have hk1 : D1[kix K1 key]? = some gk := by
                  have := kid_add HN.out.1.1 HO.out.2.2.2 (L := D) (HN.out.1.2.2.2.2 rfl).2 kid key
                  rw [HKD.out.1] at this
                  have e2 : ins D (plc K sep + 1) kid = D1 := HKD.out.2
                  rw [e2, show D[kix K key]? = some hh from HN.out.2.2] at this
                  rw [this, ← hgk]
                  split <;> rfl
                have CK := Lib.hid (kid_yes ⟨false, K1, V, D1, high, bnd, ⟨sl, ge⟩⟩ BK BV BD dk dv dd key w12 X.out.2 HF.out.2 ⟨hR1, rfl, HN.out.2.1⟩ hk1)
                have HR1 := Lib.hid (And.intro hR1 hgk)
                simp only at CK
                clear hR1 hgk hk1
                obtain ⟨c0, c1, c2, c3, c4, c5, c6, c7⟩ := at8 X.out.1
                go_upto_region 20 with (go_at_call 15; (with_reducible refine CK.out.mono ?_); rintro e w13 ⟨rfl, ht⟩; have H13 := Lib.hid ht; clear ht c0 c1 c2 c3 c4 c5 c6 c7)
                have T14 : Hid (Turn No w12 (w13.alloc (.cells #[.int .i64 gk.slot, .int .u64 gk.gen] 27))) := Lib.hid (H13.out.alloc _)
                have HG : Hid (At (w13.alloc (.cells #[.int .i64 gk.slot, .int .u64 gk.gen] 27)) w13.heap.size (.cells #[.int .i64 gk.slot, .int .u64 gk.gen] 27 (0, 0))) := Lib.hid (At.new _ _)
                clear CK H13
                generalize (w13.alloc (.cells #[.int .i64 gk.slot, .int .u64 gk.gen] 27)) = w14 at T14 HG ⊢
                generalize w13.heap.size = r15 at HG ⊢
                replace X := Lib.hid (And.intro (X.out.1.no T14.out) (X.out.2.no T14.out))
                replace T11 := Lib.hid (T11.out.trans T14.out)
                replace U11 := Lib.hid (U11.out.trans T14.out)
                clear T14
                go_upto_region 22 with fail
                go_upto_block 2 with fail
                go_cut [17, 18, 19] from 114 to 136 (fun s a x wx => ∃ (nxt : ByteArray) (av : Bool) (ii : Int), s = .string nxt ∧ a = .bool av ∧ x = .int .i64 ii ∧ wx = w14 ∧ Hid ((av = false → ∀ y ∈ K, ¬ kl sep y) ∧ (av = true → Abv K sep nxt)))
                case first =>
                  go_wp2_with fail
                  go_loopw [17, 18, 19] (fun s a x wr => ∃ (i : Nat) (av : Bool) (nxt : ByteArray), i ≤ K.length ∧ x = .int .i64 (i : Int) ∧ s = .string nxt ∧ a = .bool av ∧ wr = w14 ∧ Hid ((av = false → ∀ y ∈ K.take i, ¬ kl sep y) ∧ (av = true → Abv K sep nxt))) (fun _ _ x _ => K.length - (RowKit.intOf x).toNat)
                  case atStart => exact ⟨0, false, _, Nat.zero_le _, rfl, rfl, rfl, rfl, Lib.hid ⟨fun _ => by simp, fun h => (by cases h)⟩⟩
                  case round =>
                    obtain ⟨i, av, nxt, hi, rfl, rfl, rfl, rfl, HP⟩ := hrel
                    have c1 := (HC.out _ T11.out).cell 1
                    simp at c1
                    by_cases hlt : i < K.length
                    · have hq1 : (0 : Int) ≤ (i : Int) := by omega
                      have hq2 : (i : Int) < (K.length : Int) := by omega
                      cases av with
                      | true =>
                        go_wp2_with fail
                        go_meet
                        exact ⟨nxt, true, (i : Int), rfl, rfl, rfl, by first | rfl | trivial, Lib.hid ⟨fun h => (by cases h), fun _ => HP.out.2 (by first | rfl | trivial)⟩⟩
                      | false =>
                        obtain ⟨y, hy⟩ : ∃ t, K[i]? = some t := ⟨K[i], List.getElem?_eq_getElem hlt⟩
                        obtain ⟨b, o, hB, hc⟩ := kcs_hold (HI.out _ (HB.out.1.trans T11.out)).k hy
                        have x0 := hc _ (Turn.refl _ _)
                        have HY := Lib.hid hy
                        have HPF : Hid (∀ y ∈ K.take i, ¬ kl sep y) := Lib.hid (HP.out.1 (by first | rfl | trivial))
                        have HSN := Lib.hid (all_snoc (Q := fun k => ¬ kl sep k) hy)
                        rw [hB] at c1
                        clear hy hc hB
                        have ql := sless y sep
                        have qe := bytes_beq y sep
                        rcases kl_tri y sep with h1 | h1 | h1
                        · have HNX := Lib.hid (HSN.out.2 ⟨HPF.out, kl_asymm h1⟩)
                          rw [decide_eq_true h1] at ql
                          rw [decide_eq_false (kl_ne h1)] at qe
                          clear h1
                          go_wp2_with fail
                          exact ⟨⟨i + 1, false, nxt, by omega, by go_num, rfl, rfl, by first | rfl | trivial, Lib.hid ⟨fun _ => HNX.out, fun h => (by cases h)⟩⟩, by simp [RowKit.intOf]; omega⟩
                        · have HNX := Lib.hid (HSN.out.2 ⟨HPF.out, h1 ▸ kl_irrefl _⟩)
                          rw [decide_eq_false (h1 ▸ kl_irrefl _)] at ql
                          rw [decide_eq_true h1] at qe
                          clear h1
                          go_wp2_with fail
                          exact ⟨⟨i + 1, false, nxt, by omega, by go_num, rfl, rfl, by first | rfl | trivial, Lib.hid ⟨fun _ => HNX.out, fun h => (by cases h)⟩⟩, by simp [RowKit.intOf]; omega⟩
                        · have HNX : Hid (Abv K sep y) := Lib.hid (abv_of HN.out.1.1 HY.out HPF.out h1)
                          rw [decide_eq_false (kl_asymm h1)] at ql
                          rw [decide_eq_false (fun e => kl_ne h1 e.symm)] at qe
                          clear h1
                          go_wp2_with fail
                          exact ⟨⟨i + 1, true, y, by omega, by go_num, rfl, rfl, by first | rfl | trivial, Lib.hid ⟨fun h => (by cases h), fun _ => HNX.out⟩⟩, by simp [RowKit.intOf]; omega⟩
                    · obtain rfl : i = K.length := by omega
                      have HE := HP.out
                      rw [List.take_length] at HE
                      have HEE := Lib.hid HE
                      have hq2 : ¬ (K.length : Int) < (K.length : Int) := by omega
                      clear HE
                      go_wp2_with fail
                      go_meet
                      exact ⟨nxt, av, (K.length : Int), rfl, rfl, rfl, by first | rfl | trivial, HEE⟩
                case rest =>
                  obtain ⟨nxt, av, ii, rfl, rfl, rfl, hwc, HAB⟩ := hcut
                  subst hwc
                  generalize wc = w15 at X T11 U11 HG ⊢
                  have CRM := Lib.hid (right_yes ⟨false, K1, V, D1, high, bnd, ⟨sl, ge⟩⟩ BK BV BD dk dv dd w15 X.out.2 HR1.out.1)
                  simp only at CRM
                  have hk1 : (K1.length : Int) = (K.length : Int) + 1 := by
                    have := ins_length K (plc_le K sep) sep
                    rw [HKD.out.1] at this
                    omega
                  have hw : IntKind.i64.wrap ((K.length : Int) + 1) = (K.length : Int) + 1 := IntWalk.i64_in _ ⟨by omega, by have := H300.out.1; omega⟩
                  have hk2 : ((K1.length : Int) == (K.length : Int) + 1) = true := by rw [hk1]; simp
                  have hk3 : ((K1.length : Int) != (K.length : Int) + 1) = false := by rw [hk1]; simp
                  clear hk1
                  obtain ⟨c0, c1, c2, c3, c4, c5, c6, c7⟩ := at8 X.out.1
                  go_upto_region 30 with (go_at_call 25; (with_reducible refine CRM.out.mono ?_); rintro e w16 ⟨rfl, ht⟩; have T16 := Lib.hid ht; clear ht c0 c1 c2 c3 c4 c5 c6 c7; have c1 := (X.out.1.no T16.out).cell 1; have e1 := (HC.out _ (T11.out.trans T16.out)).cell 1; simp at c1 e1)
                  clear c1 e1 hk2 hk3 hw CRM
                  obtain ⟨gs, gg⟩ := gk
                  obtain ⟨k0, k1⟩ := at2 (HG.out.no T16.out)
                  obtain ⟨m0, m1⟩ := at2 (HKC2.out _ (U11.out.trans T16.out))
                  obtain ⟨n0, n1⟩ := at2 (HB.out.2.2.no (T11.out.trans T16.out))
                  have TW := Lib.hid (HB.out.1.trans (T11.out.trans T16.out))
                  simp only at k0 k1
                  have ql := sless key sep
                  by_cases h1 : kl key sep
                  · have hg : hh = ⟨gs, gg⟩ := by rw [← HR1.out.2, if_neg (fun h => h.1 h1)]
                    rw [decide_eq_true h1] at ql
                    have qq := eql_same gs gg
                    subst hg
                    (try simp only at m0 m1)
                    (try simp only at n0 n1)
                    clear h1
                    go_wp2_with fail
                    go_ret
                    exact ⟨rfl, TW.out⟩
                  · rw [decide_eq_false h1] at ql
                    have H1 := Lib.hid h1
                    cases av with
                    | false =>
                      have hg : kid = ⟨gs, gg⟩ := by rw [← HR1.out.2, if_pos ⟨h1, fun x hx hs => absurd hs (HAB.out.1 (by first | rfl | trivial) x hx)⟩]
                      have qq := eql_same gs gg
                      subst hg
                      (try simp only at m0 m1)
                      (try simp only at n0 n1)
                      clear h1
                      go_wp2_with fail
                      go_ret
                      exact ⟨rfl, TW.out⟩
                    | true =>
                      have hab := abv_all (key := key) (HAB.out.2 (by first | rfl | trivial))
                      have ql2 := sless key nxt
                      have qq := eql_same gs gg
                      by_cases h2 : kl key nxt
                      · have hg : kid = ⟨gs, gg⟩ := by rw [← HR1.out.2, if_pos ⟨h1, hab.2 h2⟩]
                        rw [decide_eq_true h2] at ql2
                        subst hg
                        (try simp only at m0 m1)
                        (try simp only at n0 n1)
                        clear h1 h2 hab
                        go_wp2_with fail
                        go_ret
                        exact ⟨rfl, TW.out⟩
                      · have hg : hh = ⟨gs, gg⟩ := by rw [← HR1.out.2, if_neg (fun h => h2 (hab.1 h.2))]
                        rw [decide_eq_false h2] at ql2
                        subst hg
                        (try simp only at m0 m1)
                        (try simp only at n0 n1)
                        clear h1 h2 hab
                        go_wp2_with fail
                        go_ret
                        exact ⟨rfl, TW.out⟩
              · have HO := Lib.hid ho
                have CA := Lib.hid (add_no (kid := kid) ck cv cd HINN.out HF.out.1 ho)
                clear ho
                go_upto_region 17 with (go_at_call 16; (with_reducible refine CA.out.mono ?_); rintro e w10 ⟨BK, dk, BV, dv, BD, dd, rfl, hg, ht⟩; have HJ := Lib.hid (And.intro hg ht); clear hg ht c0 c1 c2 c3 c4 c5 c6 c7 k0 k1)
                have X := Lib.hid (And.intro (At.new w10 (.cells #[.bool false, .slice BK K.length dk, .slice BV V.length dv, .slice BD D.length dd, .string high, .bool bnd, .int .i64 sl, .int .u64 ge] 29)) ((in_same HINN.out HJ.out.1).no ((Turn.refl No w10).alloc (.cells #[.bool false, .slice BK K.length dk, .slice BV V.length dv, .slice BD D.length dd, .string high, .bool bnd, .int .i64 sl, .int .u64 ge] 29))))
                have TJ := Lib.hid (HJ.out.2.alloc (.cells #[.bool false, .slice BK K.length dk, .slice BV V.length dv, .slice BD D.length dd, .string high, .bool bnd, .int .i64 sl, .int .u64 ge] 29))
                clear CA HJ
                generalize (w10.alloc (.cells #[.bool false, .slice BK K.length dk, .slice BV V.length dv, .slice BD D.length dd, .string high, .bool bnd, .int .i64 sl, .int .u64 ge] 29)) = w11 at X TJ ⊢
                generalize w10.heap.size = r14 at X ⊢
                have T11 := Lib.hid (T10.out.trans TJ.out)
                obtain ⟨c0, c1, c2, c3, c4, c5, c6, c7⟩ := at8 (HC.out _ T11.out)
                obtain ⟨e0, e1, e2, e3, e4, e5, e6, e7⟩ := at8 X.out.1
                have CEQ := Lib.hid fun (W : World) (t : Turn No w11 W) => eq_yes ⟨false, K, V, D, high, bnd, ⟨sl, ge⟩⟩ BK BV BD AK AV AD dk dv dd ck cv cd W (X.out.2.k.no t) (X.out.2.v.no t) (X.out.2.d.no t) (HI.out _ (HB.out.1.trans (T11.out.trans t))).k (HI.out _ (HB.out.1.trans (T11.out.trans t))).v (HI.out _ (HB.out.1.trans (T11.out.trans t))).d (Nat.le_trans X.out.2.lk (by decide)) (Nat.le_trans X.out.2.lv (by decide)) (Nat.le_trans X.out.2.ld (by decide))
                simp only at CEQ
                cases Q with
                | true =>
                  go_wp2_with (go_at_call 18; (with_reducible refine (CEQ.out _ (Turn.refl _ _)).mono ?_); rintro e w12 ⟨rfl, ht⟩; have T12 := Lib.hid (T11.out.trans ht); clear ht)
                  go_ret
                  exact ⟨rfl, HB.out.1.trans T12.out⟩
                | false =>
                  have CCS := Lib.hid (covers_no ⟨false, K, V, D, high, bnd, ⟨sl, ge⟩⟩ AK AV AD ck cv cd sep w11 (HI.out _ (HB.out.1.trans T11.out)) HF.out.1 (fun h => HO.out ⟨HN.out.1, rfl, h, inK_no.1 HPQ.out.2⟩))
                  simp only at CCS
                  go_wp2_with (first | (go_at_call 26; (with_reducible refine CCS.out.mono ?_); rintro e w12 ⟨rfl, ht⟩; have T12 := Lib.hid (T11.out.trans ht); have U12 := Lib.hid ht; clear ht c0 c1 c2 c3 c4 c5 c6 c7 e0 e1 e2 e3 e4 e5 e6 e7; obtain ⟨c0, c1, c2, c3, c4, c5, c6, c7⟩ := at8 (HC.out _ T12.out); obtain ⟨e0, e1, e2, e3, e4, e5, e6, e7⟩ := at8 (X.out.1.no U12.out)) | (go_at_call 18; (with_reducible refine (CEQ.out _ U12.out).mono ?_); rintro e w13 ⟨rfl, ht⟩; have T13 := Lib.hid (T12.out.trans ht); clear ht))
                  go_ret
                  exact ⟨rfl, HB.out.1.trans T13.out⟩
        · have HN := Lib.hid hp
          have CK := Lib.hid (kid_no ⟨leaf, K, V, D, high, bnd, ⟨sl, ge⟩⟩ AK AV AD ck cv cd key w3 (HI.out _ (HB.out.1.trans T3.out)) HF.out.2 hp)
          simp only at CK
          go_upto_region 6 with (go_at_call 15; (with_reducible refine CK.out.mono ?_); rintro e w4 ⟨rfl, ht⟩; have H4 := Lib.hid (T3.out.trans ht); clear ht c0 c1 c2 c3 c4 c5 c6 c7)
          have T5 : Hid (Turn No w1 (w4.alloc (.cells #[.int .i64 0, .int .u64 0] 27))) := Lib.hid (H4.out.alloc _)
          have HK5 : Hid (At (w4.alloc (.cells #[.int .i64 0, .int .u64 0] 27)) w4.heap.size (.cells #[.int .i64 0, .int .u64 0] 27 (0, 0))) := Lib.hid (At.new _ _)
          clear CK H4 T3 hp
          generalize (w4.alloc (.cells #[.int .i64 0, .int .u64 0] 27)) = w5 at T5 HK5 ⊢
          generalize w4.heap.size = r9 at HK5 ⊢
          have k0 := HK5.out.cell 0
          have k1 := HK5.out.cell 1
          simp at k0 k1
          have qn := neq_same 0 0
          obtain ⟨c0, c1, c2, c3, c4, c5, c6, c7⟩ := at8 (HC.out w5 T5.out)
          cases leaf with
          | true =>
            go_wp2_with (go_at_call 25; (with_reducible refine (CR.out _ (HI.out _ (HB.out.1.trans T5.out))).mono ?_); rintro e w6 ⟨(_ | _), rfl, hb, ht⟩ <;> have T6 := Lib.hid (And.intro hb (T5.out.trans ht)) <;> have U6 := Lib.hid (HK5.out.no ht) <;> clear hb ht c0 c1 c2 c3 c4 c5 c6 c7 k0 k1 <;> obtain ⟨c0, c1, c2, c3, c4, c5, c6, c7⟩ := at8 (HC.out w6 T6.out.2) <;> obtain ⟨k0, k1⟩ := at2 U6.out)
            all_goals go_ret
            all_goals exact ⟨rfl, HB.out.1.trans T6.out.2⟩
          | false =>
            go_upto_if 62 with (first | (go_at_call 25; (with_reducible refine (CR.out _ (HI.out _ (HB.out.1.trans T5.out))).mono ?_); rintro e w6 ⟨(_ | _), rfl, hb, ht⟩ <;> have T6 := Lib.hid (And.intro hb (T5.out.trans ht)) <;> have U6 := Lib.hid (HK5.out.no ht) <;> clear hb ht c0 c1 c2 c3 c4 c5 c6 c7 k0 k1 <;> obtain ⟨c0, c1, c2, c3, c4, c5, c6, c7⟩ := at8 (HC.out w6 T6.out.2) <;> obtain ⟨k0, k1⟩ := at2 U6.out) | (go_at_call 26; (with_reducible refine (CC.out _ (HI.out _ (HB.out.1.trans T6.out.2))).mono ?_); rintro e w7 ⟨(_ | _), rfl, hb, ht⟩ <;> have T7 := Lib.hid (And.intro hb (T6.out.2.trans ht)) <;> have U7 := Lib.hid (U6.out.no ht) <;> clear hb ht c0 c1 c2 c3 c4 c5 c6 c7 k0 k1 <;> obtain ⟨k0, k1⟩ := at2 U7.out))
            · go_wp2_with fail
              go_ret
              exact ⟨rfl, HB.out.1.trans T6.out.2⟩
            · go_wp2_with fail
              go_ret
              exact ⟨rfl, HB.out.1.trans T7.out.2⟩
            · exact absurd ⟨by first | exact T6.out.1.1 rfl | exact T6.out.1.1 trivial, by first | rfl | trivial, by first | exact T7.out.1.1 rfl | exact T7.out.1.1 trivial⟩ HN.out
end Go.Proofs.Ytengbkopihiiaaa
