/-
  Delete.
-/
import Derived.Test.YtengbkopihiiaaaWCf
namespace Go.Proofs.Ytengbkopihiiaaa
open Go.RowKit Go.Lib
set_option linter.unusedVariables false
set_option maxRecDepth 20000
set_option linter.unusedSimpArgs false

set_option maxRecDepth 100000 in
set_option maxHeartbeats 16000000 in
theorem delN (leaf : Bool) (K V : List ByteArray) (D : List Hn) (high : ByteArray) (bnd : Bool) (sl ge : Int) (AK AV AD : Option Addr) (ck cv cd : Nat) (key : ByteArray) (w : World) (hin : Fits w leaf K V D high AK AV AD) :
    Calls Try.prog 13 #[.agg #[.bool leaf, .slice AK K.length ck, .slice AV V.length cv, .slice AD D.length cd, .string high, .bool bnd, .int .i64 sl, .int .u64 ge], .string key] w fun e w' => PutRes ⟨leaf, K, V, D, high, bnd, ⟨sl, ge⟩⟩ (DelR ⟨leaf, K, V, D, high, bnd, ⟨sl, ge⟩⟩ key) w e w' := by
  have t1 : Turn No w (w.alloc (.cells #[.bool leaf, .slice AK K.length ck, .slice AV V.length cv, .slice AD D.length cd, .string high, .bool bnd, .int .i64 sl, .int .u64 ge] 29)) := (Turn.refl _ _).alloc _
  have t2 : Turn No (w.alloc (.cells #[.bool leaf, .slice AK K.length ck, .slice AV V.length cv, .slice AD D.length cd, .string high, .bool bnd, .int .i64 sl, .int .u64 ge] 29)) ((w.alloc (.cells #[.bool leaf, .slice AK K.length ck, .slice AV V.length cv, .slice AD D.length cd, .string high, .bool bnd, .int .i64 sl, .int .u64 ge] 29)).alloc (.cells #[.bool false, .slice none 0 0, .slice none 0 0, .slice none 0 0, .string ⟨#[]⟩, .bool false, .int .i64 0, .int .u64 0] 29)) := (Turn.refl _ _).alloc _
  have a1 := (At.new w (.cells #[.bool leaf, .slice AK K.length ck, .slice AV V.length cv, .slice AD D.length cd, .string high, .bool bnd, .int .i64 sl, .int .u64 ge] 29)).no t2
  have a2 := At.new (w.alloc (.cells #[.bool leaf, .slice AK K.length ck, .slice AV V.length cv, .slice AD D.length cd, .string high, .bool bnd, .int .i64 sl, .int .u64 ge] 29)) (.cells #[.bool false, .slice none 0 0, .slice none 0 0, .slice none 0 0, .string ⟨#[]⟩, .bool false, .int .i64 0, .int .u64 0] 29)
  rw [World.size_alloc] at a2
  have HB : Hid (Turn No w ((w.alloc (.cells #[.bool leaf, .slice AK K.length ck, .slice AV V.length cv, .slice AD D.length cd, .string high, .bool bnd, .int .i64 sl, .int .u64 ge] 29)).alloc (.cells #[.bool false, .slice none 0 0, .slice none 0 0, .slice none 0 0, .string ⟨#[]⟩, .bool false, .int .i64 0, .int .u64 0] 29)) ∧ At ((w.alloc (.cells #[.bool leaf, .slice AK K.length ck, .slice AV V.length cv, .slice AD D.length cd, .string high, .bool bnd, .int .i64 sl, .int .u64 ge] 29)).alloc (.cells #[.bool false, .slice none 0 0, .slice none 0 0, .slice none 0 0, .string ⟨#[]⟩, .bool false, .int .i64 0, .int .u64 0] 29)) w.heap.size (.cells #[.bool leaf, .slice AK K.length ck, .slice AV V.length cv, .slice AD D.length cd, .string high, .bool bnd, .int .i64 sl, .int .u64 ge] 29 (0, 0)) ∧ At ((w.alloc (.cells #[.bool leaf, .slice AK K.length ck, .slice AV V.length cv, .slice AD D.length cd, .string high, .bool bnd, .int .i64 sl, .int .u64 ge] 29)).alloc (.cells #[.bool false, .slice none 0 0, .slice none 0 0, .slice none 0 0, .string ⟨#[]⟩, .bool false, .int .i64 0, .int .u64 0] 29)) (w.heap.size + 1) (.cells #[.bool false, .slice none 0 0, .slice none 0 0, .slice none 0 0, .string ⟨#[]⟩, .bool false, .int .i64 0, .int .u64 0] 29 (0, 0)) ∧ ((w.alloc (.cells #[.bool leaf, .slice AK K.length ck, .slice AV V.length cv, .slice AD D.length cd, .string high, .bool bnd, .int .i64 sl, .int .u64 ge] 29)).alloc (.cells #[.bool false, .slice none 0 0, .slice none 0 0, .slice none 0 0, .string ⟨#[]⟩, .bool false, .int .i64 0, .int .u64 0] 29)).heap.size = w.heap.size + 2) := Lib.hid ⟨t1.trans t2, a1, a2, by simp⟩
  clear t1 t2 a1 a2
  have HR := Lib.hid hin
  have CN := Lib.hid fun (W : World) (t : Turn No w W) => cloneN leaf K V D high bnd sl ge AK AV AD ck cv cd W (HR.out.k.no t) (HR.out.v.no t) (HR.out.d.no t) hin.fk hin.fv hin.fh (by have := hin.lk; omega) (by have := hin.lv; omega) (by have := hin.ld; omega)
  have CT := Lib.hid fun (W : World) (t : Turn No w W) => takesP leaf K V D high bnd sl ge AK AV AD ck cv cd key W (HR.out.k.no t) (by have := hin.lk; omega)
  have CF := Lib.hid fun (W : World) (t : Turn No w W) => findP leaf K V D high bnd sl ge AK AV AD ck cv cd key W (HR.out.k.no t) (by have := hin.lk; omega)
  have hPle := plc_le K key
  have HPL := Lib.hid (And.intro hPle hin.lk)
  have HRK := Lib.hid fun (h : Rk K) (hm : inK K key = true) => plc_lt h hm
  obtain ⟨P, hP⟩ : ∃ x, plc K key = x := ⟨_, rfl⟩
  obtain ⟨Q, hQ⟩ : ∃ x, inK K key = x := ⟨_, rfl⟩
  rw [hP, hQ] at CF
  rw [hP] at HPL HRK
  rw [hQ] at HRK
  have HPQ := Lib.hid (And.intro hP hQ)
  clear hP hQ hin hPle
  go_enter Try.func13, Try.ntmps13
  go_upto_region 1 with fail
  obtain ⟨w1, hw1⟩ : ∃ x, ((w.alloc (.cells #[.bool leaf, .slice AK K.length ck, .slice AV V.length cv, .slice AD D.length cd, .string high, .bool bnd, .int .i64 sl, .int .u64 ge] 29)).alloc (.cells #[.bool false, .slice none 0 0, .slice none 0 0, .slice none 0 0, .string ⟨#[]⟩, .bool false, .int .i64 0, .int .u64 0] 29)) = x := ⟨_, rfl⟩
  rw [hw1] at HB
  rw [hw1]
  obtain ⟨g, hg⟩ : ∃ x, w.heap.size = x := ⟨_, rfl⟩
  rw [hg] at HB
  rw [hg]
  have HG := Lib.hid hg
  clear hg hw1
  obtain ⟨c0, c1, c2, c3, c4, c5, c6, c7⟩ := at8 HB.out.2.1
  go_upto_region 2 with (go_at_call 38; (with_reducible refine (CN.out _ HB.out.1).mono ?_); rintro e w2 ⟨B1, d1, B2, d2, B3, d3, rfl, ho, hd, ht⟩; have H2 := Lib.hid (And.intro ho (And.intro hd ht)); clear ho hd ht c0 c1 c2 c3 c4 c5 c6 c7; obtain ⟨e0, e1, e2, e3, e4, e5, e6, e7⟩ := at8 (HB.out.2.2.1.no H2.out.2.2); obtain ⟨z0, z1, z2, z3, z4, z5, z6, z7⟩ := th8 (HB.out.2.2.1.no H2.out.2.2))
  have H3 : Hid (Cl w ((((((((w2.setCell ⟨g + 1, 0, none⟩ (.bool leaf)).setCell ⟨g + 1, 1, none⟩ (.slice B1 K.length d1)).setCell ⟨g + 1, 2, none⟩ (.slice B2 V.length d2)).setCell ⟨g + 1, 3, none⟩ (.slice B3 D.length d3)).setCell ⟨g + 1, 4, none⟩ (.string high)).setCell ⟨g + 1, 5, none⟩ (.bool bnd)).setCell ⟨g + 1, 6, none⟩ (.int .i64 sl)).setCell ⟨g + 1, 7, none⟩ (.int .u64 ge)) g (g + 1) #[.bool leaf, .slice AK K.length ck, .slice AV V.length cv, .slice AD D.length cd, .string high, .bool bnd, .int .i64 sl, .int .u64 ge] (g + 2) leaf K V D high bnd sl ge B1 d1 B2 d2 B3 d3) := Lib.hid (by
    have tw := turn8 w2 (g + 1) (.bool leaf) (.slice B1 K.length d1) (.slice B2 V.length d2) (.slice B3 D.length d3) (.string high) (.bool bnd) (.int .i64 sl) (.int .u64 ge)
    have hs := HB.out.2.2.2
    have hgg := HG.out
    have sz := H2.out.2.2.size
    refine ⟨(HB.out.1.trans H2.out.2.2).then tw fun i hi e => by omega, (HB.out.2.1.no H2.out.2.2).turn tw (by omega), put8 (HB.out.2.2.1.no H2.out.2.2) _ _ _ _ _ _ _ _, (H2.out.1.from (by omega)).wr (HB.out.2.2.1.no H2.out.2.2) tw, H2.out.2.1, by omega, by omega, by omega, ?_⟩
    have := tw.size
    omega)
  clear e0 e1 e2 e3 e4 e5 e6 e7 z0 z1 z2 z3 z4 z5 z6 z7 H2 HB CN
  generalize ((((((((w2.setCell ⟨g + 1, 0, none⟩ (.bool leaf)).setCell ⟨g + 1, 1, none⟩ (.slice B1 K.length d1)).setCell ⟨g + 1, 2, none⟩ (.slice B2 V.length d2)).setCell ⟨g + 1, 3, none⟩ (.slice B3 D.length d3)).setCell ⟨g + 1, 4, none⟩ (.string high)).setCell ⟨g + 1, 5, none⟩ (.bool bnd)).setCell ⟨g + 1, 6, none⟩ (.int .i64 sl)).setCell ⟨g + 1, 7, none⟩ (.int .u64 ge)) = w3 at H3 ⊢
  obtain ⟨c0, c1, c2, c3, c4, c5, c6, c7⟩ := at8 H3.out.a
  go_upto_region 3 with (go_at_call 11; (with_reducible refine (CF.out _ H3.out.tu).mono ?_); rintro e w4 ⟨rfl, ht⟩; have H4 := Lib.hid (H3.out.no ht); clear ht c0 c1 c2 c3 c4 c5 c6 c7)
  clear H3 CF
  have hw : IntKind.i64.wrap ((P : Int) + 1) = (P : Int) + 1 := IntWalk.i64_in _ ⟨by have := HPL.out; omega, by have := HPL.out; omega⟩
  cases Q with
  | false =>
    have HNO : Hid (DelR ⟨leaf, K, V, D, high, bnd, ⟨sl, ge⟩⟩ key ⟨leaf, K, V, D, high, bnd, ⟨sl, ge⟩⟩ ⟨#[]⟩ false) := Lib.hid (by
      refine ⟨fun h => ?_, fun _ => ⟨rfl, rfl, rfl⟩⟩
      have hl : V.length = K.length := (h.1.2.2.2.1 h.2.1).1
      have p1 := delL_no hl h.1.1 HPQ.out.2
      have p3 := get_zip hl h.1.1 (key := key)
      rw [HPQ.out.2, if_neg (by decide)] at p3
      show _ = Nd.mk leaf ((delL (zipP K V) key).map Pr.k) ((delL (zipP K V) key).map Pr.v) D high bnd ⟨sl, ge⟩ ∧ _
      rw [p1, (zip_keys hl).1, (zip_keys hl).2]
      show _ ∧ _ = (getL (zipP K V) key).getD _ ∧ _ = (getL (zipP K V) key).isSome
      rw [p3]
      exact ⟨rfl, rfl, rfl⟩)
    go_upto_region 4 with fail
    obtain ⟨e0, e1, e2, e3, e4, e5, e6, e7⟩ := at8 H4.out.b
    obtain ⟨z0, z1, z2, z3, z4, z5, z6, z7⟩ := th8 H4.out.b
    have HZ := Lib.hid H4.out.again
    go_wp2_with fail
    generalize ((((((((w4.setCell ⟨g + 1, 0, none⟩ (.bool leaf)).setCell ⟨g + 1, 1, none⟩ (.slice B1 K.length d1)).setCell ⟨g + 1, 2, none⟩ (.slice B2 V.length d2)).setCell ⟨g + 1, 3, none⟩ (.slice B3 D.length d3)).setCell ⟨g + 1, 4, none⟩ (.string high)).setCell ⟨g + 1, 5, none⟩ (.bool bnd)).setCell ⟨g + 1, 6, none⟩ (.int .i64 sl)).setCell ⟨g + 1, 7, none⟩ (.int .u64 ge)) = w9 at HZ ⊢
    (try simp only [Exit.inBlock, Exit.then])
    refine bodyPost_ret (results_cell12 rfl _ _ (g + 1) 29 _ (0, 0) _ (by rfl) HZ.out.b Try.underlying29 (by kernel_rfl)) rfl ?_
    exact PutRes.of ⟨leaf, K, V, D, high, bnd, ⟨sl, ge⟩⟩ ⟨#[]⟩ false rfl HNO.out HZ.out.got HZ.out.tu
  | true =>
    cases leaf with
    | false =>
      have HNO : Hid (DelR ⟨false, K, V, D, high, bnd, ⟨sl, ge⟩⟩ key ⟨false, K, V, D, high, bnd, ⟨sl, ge⟩⟩ ⟨#[]⟩ false) := Lib.hid ⟨fun h => (by cases h.2.1), fun _ => ⟨rfl, rfl, rfl⟩⟩
      obtain ⟨c0, c1, c2, c3, c4, c5, c6, c7⟩ := at8 H4.out.a
      go_upto_region 4 with fail
      obtain ⟨e0, e1, e2, e3, e4, e5, e6, e7⟩ := at8 H4.out.b
      obtain ⟨z0, z1, z2, z3, z4, z5, z6, z7⟩ := th8 H4.out.b
      have HZ := Lib.hid H4.out.again
      go_wp2_with fail
      generalize ((((((((w4.setCell ⟨g + 1, 0, none⟩ (.bool false)).setCell ⟨g + 1, 1, none⟩ (.slice B1 K.length d1)).setCell ⟨g + 1, 2, none⟩ (.slice B2 V.length d2)).setCell ⟨g + 1, 3, none⟩ (.slice B3 D.length d3)).setCell ⟨g + 1, 4, none⟩ (.string high)).setCell ⟨g + 1, 5, none⟩ (.bool bnd)).setCell ⟨g + 1, 6, none⟩ (.int .i64 sl)).setCell ⟨g + 1, 7, none⟩ (.int .u64 ge)) = w9 at HZ ⊢
      (try simp only [Exit.inBlock, Exit.then])
      refine bodyPost_ret (results_cell12 rfl _ _ (g + 1) 29 _ (0, 0) _ (by rfl) HZ.out.b Try.underlying29 (by kernel_rfl)) rfl ?_
      exact PutRes.of ⟨false, K, V, D, high, bnd, ⟨sl, ge⟩⟩ ⟨#[]⟩ false rfl HNO.out HZ.out.got HZ.out.tu
    | true =>
      obtain ⟨c0, c1, c2, c3, c4, c5, c6, c7⟩ := at8 H4.out.a
      go_upto_if 28 with (go_at_call 39; (with_reducible refine (CT.out _ H4.out.tu).mono ?_); rintro e w5 ⟨(_ | _), rfl, hb, ht⟩ <;> have H5 := Lib.hid (And.intro hb (H4.out.no ht)) <;> clear hb ht c0 c1 c2 c3 c4 c5 c6 c7)
      · have HNO : Hid (DelR ⟨true, K, V, D, high, bnd, ⟨sl, ge⟩⟩ key ⟨true, K, V, D, high, bnd, ⟨sl, ge⟩⟩ ⟨#[]⟩ false) := Lib.hid ⟨fun h => (by have := H5.out.1.2 ⟨h.1, h.2.2⟩; cases this), fun _ => ⟨rfl, rfl, rfl⟩⟩
        have H6 := Lib.hid H5.out.2
        go_upto_region 4 with fail
        obtain ⟨e0, e1, e2, e3, e4, e5, e6, e7⟩ := at8 H6.out.b
        obtain ⟨z0, z1, z2, z3, z4, z5, z6, z7⟩ := th8 H6.out.b
        have HZ := Lib.hid H6.out.again
        go_wp2_with fail
        generalize ((((((((w5.setCell ⟨g + 1, 0, none⟩ (.bool true)).setCell ⟨g + 1, 1, none⟩ (.slice B1 K.length d1)).setCell ⟨g + 1, 2, none⟩ (.slice B2 V.length d2)).setCell ⟨g + 1, 3, none⟩ (.slice B3 D.length d3)).setCell ⟨g + 1, 4, none⟩ (.string high)).setCell ⟨g + 1, 5, none⟩ (.bool bnd)).setCell ⟨g + 1, 6, none⟩ (.int .i64 sl)).setCell ⟨g + 1, 7, none⟩ (.int .u64 ge)) = w9 at HZ ⊢
        (try simp only [Exit.inBlock, Exit.then])
        refine bodyPost_ret (results_cell12 rfl _ _ (g + 1) 29 _ (0, 0) _ (by rfl) HZ.out.b Try.underlying29 (by kernel_rfl)) rfl ?_
        exact PutRes.of ⟨true, K, V, D, high, bnd, ⟨sl, ge⟩⟩ ⟨#[]⟩ false rfl HNO.out HZ.out.got HZ.out.tu
      · have HYE : Hid (LeafR ⟨true, K, V, D, high, bnd, ⟨sl, ge⟩⟩ key) := Lib.hid (by
          have h : RightP true K V.length D.length high bnd ∧ (bnd = true → kl key high) := by first | exact H5.out.1.1 rfl | exact H5.out.1.1 trivial
          exact ⟨h.1, rfl, h.2⟩)
        have H6 := Lib.hid H5.out.2
        clear H4 H5 CT
        have HVL : Hid (V.length = K.length ∧ Rk K) := Lib.hid ⟨(HYE.out.1.2.2.2.1 rfl).1, HYE.out.1.1⟩
        have hlt : P < K.length := by first | exact HRK.out HVL.out.2 rfl | exact HRK.out HVL.out.2 trivial
        have hltV : P < V.length := by rw [HVL.out.1]; exact hlt
        have HLT := Lib.hid (And.intro hlt hltV)
        obtain ⟨v0, hv0⟩ : ∃ v0, V[P]? = some v0 := ⟨V[P], List.getElem?_eq_getElem hltV⟩
        obtain ⟨K1, hK1⟩ : ∃ x, era K P = x := ⟨_, rfl⟩
        obtain ⟨V1, hV1⟩ : ∃ x, era V P = x := ⟨_, rfl⟩
        have hKl : K1.length = K.length - 1 := by rw [← hK1]; exact era_length K hlt
        have hVl : V1.length = V.length - 1 := by rw [← hV1]; exact era_length V hltV
        have HKV := Lib.hid (And.intro hK1 (And.intro hV1 (And.intro hKl (And.intro hVl hv0))))
        have ci := delK K hlt H6.out.own.k
        rw [hK1, ← hKl] at ci
        have CI := Lib.hid ci
        obtain ⟨g2, rfl, hz2, hl2, cur, hat⟩ := own_some H6.out.own.v (by omega)
        have x0 := own_cell H6.out.own.v hv0 w5 (Turn.refl _ _)
        have e1 := H6.out.b.cell 1
        have e2 := H6.out.b.cell 2
        simp at e1 e2
        have hq1 : (0 : Int) ≤ (P : Int) := by omega
        have hq2 : (P : Int) < (V.length : Int) := by omega
        clear hat hz2 hl2 hv0 hV1 hK1 hKl hVl ci hlt hltV
        go_upto_region 6 with fail
        clear x0 hq1 hq2
        go_upto_region 7 with (go_at_call 42; (with_reducible refine CI.out.mono ?_); rintro e w8 ⟨rfl, ho, ht⟩; have H9 := Lib.hid (H6.out.setK ho ht (fun i hi => .inl hi)); obtain ⟨y1, z1⟩ := And.intro ((H6.out.stK ht).cell 1) ((H6.out.stK ht).thawed 1); simp at y1; clear ho ht)
        clear e1 e2 y1 z1 CI H6
        generalize w8.setCell ⟨g + 1, 1, none⟩ (.slice B1 K1.length d1) = w9 at H9 ⊢
        have ci := delK V HLT.out.2 H9.out.own.v
        rw [HKV.out.2.1, ← HKV.out.2.2.2.1] at ci
        have CI := Lib.hid ci
        have e2 := H9.out.b.cell 2
        simp at e2
        clear ci
        go_upto_region 8 with (go_at_call 42; (with_reducible refine CI.out.mono ?_); rintro e w10 ⟨rfl, ho, ht⟩; have H10 := Lib.hid (H9.out.setV ho ht (fun i hi => .inl hi)); obtain ⟨y1, z1⟩ := And.intro ((H9.out.stV ht).cell 2) ((H9.out.stV ht).thawed 2); simp at y1; clear ho ht)
        clear e2 y1 z1 CI H9
        generalize w10.setCell ⟨g + 1, 2, none⟩ (.slice (some ⟨g2, 0, none⟩) V1.length d2) = w11 at H10 ⊢
        obtain ⟨e0, e1, e2, e3, e4, e5, e6, e7⟩ := at8 H10.out.b
        obtain ⟨z0, z1, z2, z3, z4, z5, z6, z7⟩ := th8 H10.out.b
        have HZ := Lib.hid H10.out.again
        go_wp2_with fail
        generalize ((((((((w11.setCell ⟨g + 1, 0, none⟩ (.bool true)).setCell ⟨g + 1, 1, none⟩ (.slice B1 K1.length d1)).setCell ⟨g + 1, 2, none⟩ (.slice (some ⟨g2, 0, none⟩) V1.length d2)).setCell ⟨g + 1, 3, none⟩ (.slice B3 D.length d3)).setCell ⟨g + 1, 4, none⟩ (.string high)).setCell ⟨g + 1, 5, none⟩ (.bool bnd)).setCell ⟨g + 1, 6, none⟩ (.int .i64 sl)).setCell ⟨g + 1, 7, none⟩ (.int .u64 ge)) = w12 at HZ ⊢
        (try simp only [Exit.inBlock, Exit.then])
        refine bodyPost_ret (results_cell12 rfl _ _ (g + 1) 29 _ (0, 0) _ (by rfl) HZ.out.b Try.underlying29 (by kernel_rfl)) rfl ?_
        refine PutRes.of ⟨true, K1, V1, D, high, bnd, ⟨sl, ge⟩⟩ v0 true rfl ⟨fun _ => ?_, fun h => absurd HYE.out h⟩ HZ.out.got HZ.out.tu
        obtain ⟨p1, p2⟩ := delL_yes HVL.out.1 HVL.out.2 HPQ.out.2
        have p3 := get_zip HVL.out.1 HVL.out.2 (key := key)
        rw [HPQ.out.2, if_pos rfl, HPQ.out.1, HKV.out.2.2.2.2] at p3
        rw [HPQ.out.1, HKV.out.1] at p1
        rw [HPQ.out.1, HKV.out.2.1] at p2
        show _ = Nd.mk true _ _ D high bnd ⟨sl, ge⟩ ∧ _
        rw [p1, p2, p3]
        exact ⟨rfl, rfl, rfl⟩
end Go.Proofs.Ytengbkopihiiaaa
