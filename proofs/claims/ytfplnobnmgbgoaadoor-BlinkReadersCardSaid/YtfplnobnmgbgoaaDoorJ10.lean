/-
  Delete.
  What is asked of the program, met.
  Leaves as lists of pairs; what the laws ask of Put, Delete, equal.
  Texts held against each other by the walk; Covers and Kid where it is known what they tell; a node that is added to.
  The law BlnodeKids.
  What Put, Delete, Add, Split make of right nodes.
  Halves: right, with what the node had.
-/
import Derived.Test.YtfplnobnmgbgoaaDoorJ7
import Derived.Test.YtfplnobnmgbgoaaDoorJ9
namespace Go.Proofs.YtfplnobnmgbgoaaDoor
open Go.RowKit Go.Lib
set_option linter.unusedVariables false
set_option maxRecDepth 20000
set_option maxRecDepth 20000
set_option linter.unusedSimpArgs false

set_option maxRecDepth 100000 in
set_option maxHeartbeats 16000000 in
theorem delN (leaf : Bool) (K V : List ByteArray) (D : List Hn) (high : ByteArray) (bnd : Bool) (sl ge : Int) (AK AV AD : Option Addr) (ck cv cd : Nat) (key : ByteArray) (w : World) (hin : Fits w leaf K V D high AK AV AD) :
    Calls Tryd.prog 51 #[.agg #[.bool leaf, .slice AK K.length ck, .slice AV V.length cv, .slice AD D.length cd, .string high, .bool bnd, .int .i64 sl, .int .u64 ge], .string key] w fun e w' => PutRes ⟨leaf, K, V, D, high, bnd, ⟨sl, ge⟩⟩ (DelR ⟨leaf, K, V, D, high, bnd, ⟨sl, ge⟩⟩ key) w e w' := by
  have t1 : Turn No w (w.alloc (.cells #[.bool leaf, .slice AK K.length ck, .slice AV V.length cv, .slice AD D.length cd, .string high, .bool bnd, .int .i64 sl, .int .u64 ge] 79)) := (Turn.refl _ _).alloc _
  have t2 : Turn No (w.alloc (.cells #[.bool leaf, .slice AK K.length ck, .slice AV V.length cv, .slice AD D.length cd, .string high, .bool bnd, .int .i64 sl, .int .u64 ge] 79)) ((w.alloc (.cells #[.bool leaf, .slice AK K.length ck, .slice AV V.length cv, .slice AD D.length cd, .string high, .bool bnd, .int .i64 sl, .int .u64 ge] 79)).alloc (.cells #[.bool false, .slice none 0 0, .slice none 0 0, .slice none 0 0, .string ⟨#[]⟩, .bool false, .int .i64 0, .int .u64 0] 79)) := (Turn.refl _ _).alloc _
  have a1 := (At.new w (.cells #[.bool leaf, .slice AK K.length ck, .slice AV V.length cv, .slice AD D.length cd, .string high, .bool bnd, .int .i64 sl, .int .u64 ge] 79)).no t2
  have a2 := At.new (w.alloc (.cells #[.bool leaf, .slice AK K.length ck, .slice AV V.length cv, .slice AD D.length cd, .string high, .bool bnd, .int .i64 sl, .int .u64 ge] 79)) (.cells #[.bool false, .slice none 0 0, .slice none 0 0, .slice none 0 0, .string ⟨#[]⟩, .bool false, .int .i64 0, .int .u64 0] 79)
  rw [World.size_alloc] at a2
  have HB : Hid (Turn No w ((w.alloc (.cells #[.bool leaf, .slice AK K.length ck, .slice AV V.length cv, .slice AD D.length cd, .string high, .bool bnd, .int .i64 sl, .int .u64 ge] 79)).alloc (.cells #[.bool false, .slice none 0 0, .slice none 0 0, .slice none 0 0, .string ⟨#[]⟩, .bool false, .int .i64 0, .int .u64 0] 79)) ∧ At ((w.alloc (.cells #[.bool leaf, .slice AK K.length ck, .slice AV V.length cv, .slice AD D.length cd, .string high, .bool bnd, .int .i64 sl, .int .u64 ge] 79)).alloc (.cells #[.bool false, .slice none 0 0, .slice none 0 0, .slice none 0 0, .string ⟨#[]⟩, .bool false, .int .i64 0, .int .u64 0] 79)) w.heap.size (.cells #[.bool leaf, .slice AK K.length ck, .slice AV V.length cv, .slice AD D.length cd, .string high, .bool bnd, .int .i64 sl, .int .u64 ge] 79 (0, 0)) ∧ At ((w.alloc (.cells #[.bool leaf, .slice AK K.length ck, .slice AV V.length cv, .slice AD D.length cd, .string high, .bool bnd, .int .i64 sl, .int .u64 ge] 79)).alloc (.cells #[.bool false, .slice none 0 0, .slice none 0 0, .slice none 0 0, .string ⟨#[]⟩, .bool false, .int .i64 0, .int .u64 0] 79)) (w.heap.size + 1) (.cells #[.bool false, .slice none 0 0, .slice none 0 0, .slice none 0 0, .string ⟨#[]⟩, .bool false, .int .i64 0, .int .u64 0] 79 (0, 0)) ∧ ((w.alloc (.cells #[.bool leaf, .slice AK K.length ck, .slice AV V.length cv, .slice AD D.length cd, .string high, .bool bnd, .int .i64 sl, .int .u64 ge] 79)).alloc (.cells #[.bool false, .slice none 0 0, .slice none 0 0, .slice none 0 0, .string ⟨#[]⟩, .bool false, .int .i64 0, .int .u64 0] 79)).heap.size = w.heap.size + 2) := Lib.hid ⟨t1.trans t2, a1, a2, by simp⟩
  clear t1 t2 a1 a2
  have HR := Lib.hid hin
  have CN := Lib.hid fun (W : World) (t : Turn No w W) => cloneN leaf K V D high bnd sl ge AK AV AD ck cv cd W (HR.out.k.no t) (HR.out.v.no t) (HR.out.d.no t) hin.fk hin.fv hin.fh (by have := hin.lk; omega) (by have := hin.lv; omega) (by have := hin.ld; omega)
  have CT := Lib.hid fun (W : World) (t : Turn No w W) => takesP leaf K V D high bnd sl ge AK AV AD ck cv cd key W (HR.out.k.no t) (by have := hin.lk; omega)
  have CF := Lib.hid fun (W : World) (t : Turn No w W) => findP leaf K V D high bnd sl ge AK AV AD ck cv cd key W (HR.out.k.no t) (by have := hin.lk; omega)
  have hPle := plc_le K key
  have HPL := Lib.hid (And.intro hPle hin.lk)
  have HRK := Lib.hid fun (h : Rk K) (hm : inK K key = true) => plc_lt h hm
  obtain ⟨P, hP⟩ : ∃ x, plc K key = x := ⟨_, rfl⟩
  obtain ⟨Q, hQ⟩ : ∃ x, inK K key = x := ⟨_, rfl⟩
  rw [hP, hQ] at CF
  rw [hP] at HPL HRK
  rw [hQ] at HRK
  have HPQ := Lib.hid (And.intro hP hQ)
  clear hP hQ hin hPle
  go_enter Tryd.func51, Tryd.ntmps51
  go_upto_region 1 with fail
  obtain ⟨w1, hw1⟩ : ∃ x, ((w.alloc (.cells #[.bool leaf, .slice AK K.length ck, .slice AV V.length cv, .slice AD D.length cd, .string high, .bool bnd, .int .i64 sl, .int .u64 ge] 79)).alloc (.cells #[.bool false, .slice none 0 0, .slice none 0 0, .slice none 0 0, .string ⟨#[]⟩, .bool false, .int .i64 0, .int .u64 0] 79)) = x := ⟨_, rfl⟩
  rw [hw1] at HB
  rw [hw1]
  obtain ⟨g, hg⟩ : ∃ x, w.heap.size = x := ⟨_, rfl⟩
  rw [hg] at HB
  rw [hg]
  have HG := Lib.hid hg
  clear hg hw1
  obtain ⟨c0, c1, c2, c3, c4, c5, c6, c7⟩ := at8 HB.out.2.1
  go_upto_region 2 with (go_at_call 66; (with_reducible refine (CN.out _ HB.out.1).mono ?_); rintro e w2 ⟨B1, d1, B2, d2, B3, d3, rfl, ho, hd, ht⟩; have H2 := Lib.hid (And.intro ho (And.intro hd ht)); clear ho hd ht c0 c1 c2 c3 c4 c5 c6 c7; obtain ⟨e0, e1, e2, e3, e4, e5, e6, e7⟩ := at8 (HB.out.2.2.1.no H2.out.2.2); obtain ⟨z0, z1, z2, z3, z4, z5, z6, z7⟩ := th8 (HB.out.2.2.1.no H2.out.2.2))
  have H3 : Hid (Cl w ((((((((w2.setCell ⟨g + 1, 0, none⟩ (.bool leaf)).setCell ⟨g + 1, 1, none⟩ (.slice B1 K.length d1)).setCell ⟨g + 1, 2, none⟩ (.slice B2 V.length d2)).setCell ⟨g + 1, 3, none⟩ (.slice B3 D.length d3)).setCell ⟨g + 1, 4, none⟩ (.string high)).setCell ⟨g + 1, 5, none⟩ (.bool bnd)).setCell ⟨g + 1, 6, none⟩ (.int .i64 sl)).setCell ⟨g + 1, 7, none⟩ (.int .u64 ge)) g (g + 1) #[.bool leaf, .slice AK K.length ck, .slice AV V.length cv, .slice AD D.length cd, .string high, .bool bnd, .int .i64 sl, .int .u64 ge] (g + 2) leaf K V D high bnd sl ge B1 d1 B2 d2 B3 d3) := Lib.hid (by
    have tw := turn8 w2 (g + 1) (.bool leaf) (.slice B1 K.length d1) (.slice B2 V.length d2) (.slice B3 D.length d3) (.string high) (.bool bnd) (.int .i64 sl) (.int .u64 ge)
    have hs := HB.out.2.2.2
    have hgg := HG.out
    have sz := H2.out.2.2.size
    refine ⟨(HB.out.1.trans H2.out.2.2).then tw fun i hi e => by omega, (HB.out.2.1.no H2.out.2.2).turn tw (by omega), put8 (HB.out.2.2.1.no H2.out.2.2) _ _ _ _ _ _ _ _, (H2.out.1.from (by omega)).wr (HB.out.2.2.1.no H2.out.2.2) tw, H2.out.2.1, by omega, by omega, by omega, ?_⟩
    have := tw.size
    omega)
  clear e0 e1 e2 e3 e4 e5 e6 e7 z0 z1 z2 z3 z4 z5 z6 z7 H2 HB CN
  generalize ((((((((w2.setCell ⟨g + 1, 0, none⟩ (.bool leaf)).setCell ⟨g + 1, 1, none⟩ (.slice B1 K.length d1)).setCell ⟨g + 1, 2, none⟩ (.slice B2 V.length d2)).setCell ⟨g + 1, 3, none⟩ (.slice B3 D.length d3)).setCell ⟨g + 1, 4, none⟩ (.string high)).setCell ⟨g + 1, 5, none⟩ (.bool bnd)).setCell ⟨g + 1, 6, none⟩ (.int .i64 sl)).setCell ⟨g + 1, 7, none⟩ (.int .u64 ge)) = w3 at H3 ⊢
  obtain ⟨c0, c1, c2, c3, c4, c5, c6, c7⟩ := at8 H3.out.a
  go_upto_region 3 with (go_at_call 35; (with_reducible refine (CF.out _ H3.out.tu).mono ?_); rintro e w4 ⟨rfl, ht⟩; have H4 := Lib.hid (H3.out.no ht); clear ht c0 c1 c2 c3 c4 c5 c6 c7)
  clear H3 CF
  have hw : IntKind.i64.wrap ((P : Int) + 1) = (P : Int) + 1 := IntWalk.i64_in _ ⟨by have := HPL.out; omega, by have := HPL.out; omega⟩
  cases Q with
  | false =>
    have HNO : Hid (DelR ⟨leaf, K, V, D, high, bnd, ⟨sl, ge⟩⟩ key ⟨leaf, K, V, D, high, bnd, ⟨sl, ge⟩⟩ ⟨#[]⟩ false) := Lib.hid (by
      refine ⟨fun h => ?_, fun _ => ⟨rfl, rfl, rfl⟩⟩
      have hl : V.length = K.length := (h.1.2.2.2.1 h.2.1).1
      have p1 := delL_no hl h.1.1 HPQ.out.2
      have p3 := get_zip hl h.1.1 (key := key)
      rw [HPQ.out.2, if_neg (by decide)] at p3
      show _ = Nd.mk leaf ((delL (zipP K V) key).map Pr.k) ((delL (zipP K V) key).map Pr.v) D high bnd ⟨sl, ge⟩ ∧ _
      rw [p1, (zip_keys hl).1, (zip_keys hl).2]
      show _ ∧ _ = (getL (zipP K V) key).getD _ ∧ _ = (getL (zipP K V) key).isSome
      rw [p3]
      exact ⟨rfl, rfl, rfl⟩)
    go_upto_region 4 with fail
    obtain ⟨e0, e1, e2, e3, e4, e5, e6, e7⟩ := at8 H4.out.b
    obtain ⟨z0, z1, z2, z3, z4, z5, z6, z7⟩ := th8 H4.out.b
    have HZ := Lib.hid H4.out.again
    go_wp2_with fail
    generalize ((((((((w4.setCell ⟨g + 1, 0, none⟩ (.bool leaf)).setCell ⟨g + 1, 1, none⟩ (.slice B1 K.length d1)).setCell ⟨g + 1, 2, none⟩ (.slice B2 V.length d2)).setCell ⟨g + 1, 3, none⟩ (.slice B3 D.length d3)).setCell ⟨g + 1, 4, none⟩ (.string high)).setCell ⟨g + 1, 5, none⟩ (.bool bnd)).setCell ⟨g + 1, 6, none⟩ (.int .i64 sl)).setCell ⟨g + 1, 7, none⟩ (.int .u64 ge)) = w9 at HZ ⊢
    (try simp only [Exit.inBlock, Exit.then])
    refine bodyPost_ret (results_cell12 rfl _ _ (g + 1) 79 _ (0, 0) _ (by rfl) HZ.out.b Tryd.underlying79 (by kernel_rfl)) rfl ?_
    exact PutRes.of ⟨leaf, K, V, D, high, bnd, ⟨sl, ge⟩⟩ ⟨#[]⟩ false rfl HNO.out HZ.out.got HZ.out.tu
  | true =>
    cases leaf with
    | false =>
      have HNO : Hid (DelR ⟨false, K, V, D, high, bnd, ⟨sl, ge⟩⟩ key ⟨false, K, V, D, high, bnd, ⟨sl, ge⟩⟩ ⟨#[]⟩ false) := Lib.hid ⟨fun h => (by cases h.2.1), fun _ => ⟨rfl, rfl, rfl⟩⟩
      obtain ⟨c0, c1, c2, c3, c4, c5, c6, c7⟩ := at8 H4.out.a
      go_upto_region 4 with fail
      obtain ⟨e0, e1, e2, e3, e4, e5, e6, e7⟩ := at8 H4.out.b
      obtain ⟨z0, z1, z2, z3, z4, z5, z6, z7⟩ := th8 H4.out.b
      have HZ := Lib.hid H4.out.again
      go_wp2_with fail
      generalize ((((((((w4.setCell ⟨g + 1, 0, none⟩ (.bool false)).setCell ⟨g + 1, 1, none⟩ (.slice B1 K.length d1)).setCell ⟨g + 1, 2, none⟩ (.slice B2 V.length d2)).setCell ⟨g + 1, 3, none⟩ (.slice B3 D.length d3)).setCell ⟨g + 1, 4, none⟩ (.string high)).setCell ⟨g + 1, 5, none⟩ (.bool bnd)).setCell ⟨g + 1, 6, none⟩ (.int .i64 sl)).setCell ⟨g + 1, 7, none⟩ (.int .u64 ge)) = w9 at HZ ⊢
      (try simp only [Exit.inBlock, Exit.then])
      refine bodyPost_ret (results_cell12 rfl _ _ (g + 1) 79 _ (0, 0) _ (by rfl) HZ.out.b Tryd.underlying79 (by kernel_rfl)) rfl ?_
      exact PutRes.of ⟨false, K, V, D, high, bnd, ⟨sl, ge⟩⟩ ⟨#[]⟩ false rfl HNO.out HZ.out.got HZ.out.tu
    | true =>
      obtain ⟨c0, c1, c2, c3, c4, c5, c6, c7⟩ := at8 H4.out.a
      go_upto_if 28 with (go_at_call 67; (with_reducible refine (CT.out _ H4.out.tu).mono ?_); rintro e w5 ⟨(_ | _), rfl, hb, ht⟩ <;> have H5 := Lib.hid (And.intro hb (H4.out.no ht)) <;> clear hb ht c0 c1 c2 c3 c4 c5 c6 c7)
      · have HNO : Hid (DelR ⟨true, K, V, D, high, bnd, ⟨sl, ge⟩⟩ key ⟨true, K, V, D, high, bnd, ⟨sl, ge⟩⟩ ⟨#[]⟩ false) := Lib.hid ⟨fun h => (by have := H5.out.1.2 ⟨h.1, h.2.2⟩; cases this), fun _ => ⟨rfl, rfl, rfl⟩⟩
        have H6 := Lib.hid H5.out.2
        go_upto_region 4 with fail
        obtain ⟨e0, e1, e2, e3, e4, e5, e6, e7⟩ := at8 H6.out.b
        obtain ⟨z0, z1, z2, z3, z4, z5, z6, z7⟩ := th8 H6.out.b
        have HZ := Lib.hid H6.out.again
        go_wp2_with fail
        generalize ((((((((w5.setCell ⟨g + 1, 0, none⟩ (.bool true)).setCell ⟨g + 1, 1, none⟩ (.slice B1 K.length d1)).setCell ⟨g + 1, 2, none⟩ (.slice B2 V.length d2)).setCell ⟨g + 1, 3, none⟩ (.slice B3 D.length d3)).setCell ⟨g + 1, 4, none⟩ (.string high)).setCell ⟨g + 1, 5, none⟩ (.bool bnd)).setCell ⟨g + 1, 6, none⟩ (.int .i64 sl)).setCell ⟨g + 1, 7, none⟩ (.int .u64 ge)) = w9 at HZ ⊢
        (try simp only [Exit.inBlock, Exit.then])
        refine bodyPost_ret (results_cell12 rfl _ _ (g + 1) 79 _ (0, 0) _ (by rfl) HZ.out.b Tryd.underlying79 (by kernel_rfl)) rfl ?_
        exact PutRes.of ⟨true, K, V, D, high, bnd, ⟨sl, ge⟩⟩ ⟨#[]⟩ false rfl HNO.out HZ.out.got HZ.out.tu
      · have HYE : Hid (LeafR ⟨true, K, V, D, high, bnd, ⟨sl, ge⟩⟩ key) := Lib.hid (by
          have h : RightP true K V.length D.length high bnd ∧ (bnd = true → kl key high) := by first | exact H5.out.1.1 rfl | exact H5.out.1.1 trivial
          exact ⟨h.1, rfl, h.2⟩)
        have H6 := Lib.hid H5.out.2
        clear H4 H5 CT
        have HVL : Hid (V.length = K.length ∧ Rk K) := Lib.hid ⟨(HYE.out.1.2.2.2.1 rfl).1, HYE.out.1.1⟩
        have hlt : P < K.length := by first | exact HRK.out HVL.out.2 rfl | exact HRK.out HVL.out.2 trivial
        have hltV : P < V.length := by rw [HVL.out.1]; exact hlt
        have HLT := Lib.hid (And.intro hlt hltV)
        obtain ⟨v0, hv0⟩ : ∃ v0, V[P]? = some v0 := ⟨V[P], List.getElem?_eq_getElem hltV⟩
        obtain ⟨K1, hK1⟩ : ∃ x, era K P = x := ⟨_, rfl⟩
        obtain ⟨V1, hV1⟩ : ∃ x, era V P = x := ⟨_, rfl⟩
        have hKl : K1.length = K.length - 1 := by rw [← hK1]; exact era_length K hlt
        have hVl : V1.length = V.length - 1 := by rw [← hV1]; exact era_length V hltV
        have HKV := Lib.hid (And.intro hK1 (And.intro hV1 (And.intro hKl (And.intro hVl hv0))))
        have ci := delK K hlt H6.out.own.k
        rw [hK1, ← hKl] at ci
        have CI := Lib.hid ci
        obtain ⟨g2, rfl, hz2, hl2, cur, hat⟩ := own_some H6.out.own.v (by omega)
        have x0 := own_cell H6.out.own.v hv0 w5 (Turn.refl _ _)
        have e1 := H6.out.b.cell 1
        have e2 := H6.out.b.cell 2
        simp at e1 e2
        have hq1 : (0 : Int) ≤ (P : Int) := by omega
        have hq2 : (P : Int) < (V.length : Int) := by omega
        clear hat hz2 hl2 hv0 hV1 hK1 hKl hVl ci hlt hltV
        go_upto_region 6 with fail
        clear x0 hq1 hq2
        go_upto_region 7 with (go_at_call 74; (with_reducible refine CI.out.mono ?_); rintro e w8 ⟨rfl, ho, ht⟩; have H9 := Lib.hid (H6.out.setK ho ht (fun i hi => .inl hi)); obtain ⟨y1, z1⟩ := And.intro ((H6.out.stK ht).cell 1) ((H6.out.stK ht).thawed 1); simp at y1; clear ho ht)
        clear e1 e2 y1 z1 CI H6
        generalize w8.setCell ⟨g + 1, 1, none⟩ (.slice B1 K1.length d1) = w9 at H9 ⊢
        have ci := delK V HLT.out.2 H9.out.own.v
        rw [HKV.out.2.1, ← HKV.out.2.2.2.1] at ci
        have CI := Lib.hid ci
        have e2 := H9.out.b.cell 2
        simp at e2
        clear ci
        go_upto_region 8 with (go_at_call 74; (with_reducible refine CI.out.mono ?_); rintro e w10 ⟨rfl, ho, ht⟩; have H10 := Lib.hid (H9.out.setV ho ht (fun i hi => .inl hi)); obtain ⟨y1, z1⟩ := And.intro ((H9.out.stV ht).cell 2) ((H9.out.stV ht).thawed 2); simp at y1; clear ho ht)
        clear e2 y1 z1 CI H9
        generalize w10.setCell ⟨g + 1, 2, none⟩ (.slice (some ⟨g2, 0, none⟩) V1.length d2) = w11 at H10 ⊢
        obtain ⟨e0, e1, e2, e3, e4, e5, e6, e7⟩ := at8 H10.out.b
        obtain ⟨z0, z1, z2, z3, z4, z5, z6, z7⟩ := th8 H10.out.b
        have HZ := Lib.hid H10.out.again
        go_wp2_with fail
        generalize ((((((((w11.setCell ⟨g + 1, 0, none⟩ (.bool true)).setCell ⟨g + 1, 1, none⟩ (.slice B1 K1.length d1)).setCell ⟨g + 1, 2, none⟩ (.slice (some ⟨g2, 0, none⟩) V1.length d2)).setCell ⟨g + 1, 3, none⟩ (.slice B3 D.length d3)).setCell ⟨g + 1, 4, none⟩ (.string high)).setCell ⟨g + 1, 5, none⟩ (.bool bnd)).setCell ⟨g + 1, 6, none⟩ (.int .i64 sl)).setCell ⟨g + 1, 7, none⟩ (.int .u64 ge)) = w12 at HZ ⊢
        (try simp only [Exit.inBlock, Exit.then])
        refine bodyPost_ret (results_cell12 rfl _ _ (g + 1) 79 _ (0, 0) _ (by rfl) HZ.out.b Tryd.underlying79 (by kernel_rfl)) rfl ?_
        refine PutRes.of ⟨true, K1, V1, D, high, bnd, ⟨sl, ge⟩⟩ v0 true rfl ⟨fun _ => ?_, fun h => absurd HYE.out h⟩ HZ.out.got HZ.out.tu
        obtain ⟨p1, p2⟩ := delL_yes HVL.out.1 HVL.out.2 HPQ.out.2
        have p3 := get_zip HVL.out.1 HVL.out.2 (key := key)
        rw [HPQ.out.2, if_pos rfl, HPQ.out.1, HKV.out.2.2.2.2] at p3
        rw [HPQ.out.1, HKV.out.1] at p1
        rw [HPQ.out.1, HKV.out.2.1] at p2
        show _ = Nd.mk true _ _ D high bnd ⟨sl, ge⟩ ∧ _
        rw [p1, p2, p3]
        exact ⟨rfl, rfl, rfl⟩
end Go.Proofs.YtfplnobnmgbgoaaDoor
namespace Go.Proofs.YtfplnobnmgbgoaaDoor
open Go.RowKit Go.Lib
set_option linter.unusedVariables false
set_option maxRecDepth 20000
set_option maxRecDepth 20000
set_option linter.unusedSimpArgs false

theorem in_fits {w : World} {n : Nd} {AK AV AD : Option Addr} (h : In w n AK AV AD) : Fits w n.leaf n.keys n.vals n.kids n.high AK AV AD := ⟨h.k, h.v, h.d, h.fk, h.fv, h.fh, h.lk, h.lv, h.ld⟩
theorem find_c : FindC := fun leaf K nv nd high bnd slot gen AK AV AD ck cv cd key w hR hf hk hn => by
  have := findP leaf K (List.replicate nv ⟨#[]⟩) (List.replicate nd ⟨0, 0⟩) high bnd slot gen AK AV AD ck cv cd key w hR hn
  simpa only [List.length_replicate] using this
theorem right_c : RightC := fun n AK AV AD ck cv cd w h => by
  obtain ⟨leaf, K, V, D, high, bnd, ⟨sl, ge⟩⟩ := n
  exact rightQ leaf K V D high bnd sl ge AK AV AD ck cv cd w h.k (Nat.le_trans h.lk (by decide))
theorem covers_c : CoversC := fun n AK AV AD ck cv cd key w h hk => by
  obtain ⟨leaf, K, V, D, high, bnd, ⟨sl, ge⟩⟩ := n
  exact coversP leaf K V D high bnd sl ge AK AV AD ck cv cd key w
theorem full_c : FullC := fun n AK AV AD ck cv cd w h => by
  obtain ⟨leaf, K, V, D, high, bnd, ⟨sl, ge⟩⟩ := n
  exact fullP leaf K V D high bnd sl ge AK AV AD ck cv cd w (Nat.le_trans h.lk (by decide))
theorem kid_c : KidC := fun n AK AV AD ck cv cd key w h hk => by
  obtain ⟨leaf, K, V, D, high, bnd, ⟨sl, ge⟩⟩ := n
  exact kidN leaf K V D high bnd sl ge AK AV AD ck cv cd key w (in_fits h)
theorem put_c : PutC := fun n AK AV AD ck cv cd key val w h hk hv => by
  obtain ⟨leaf, K, V, D, high, bnd, ⟨sl, ge⟩⟩ := n
  exact putN leaf K V D high bnd sl ge AK AV AD ck cv cd key val w (in_fits h) hk hv
theorem del_c : DelC := fun n AK AV AD ck cv cd key w h hk => by
  obtain ⟨leaf, K, V, D, high, bnd, ⟨sl, ge⟩⟩ := n
  exact delN leaf K V D high bnd sl ge AK AV AD ck cv cd key w (in_fits h)
theorem add_c : AddC := fun n AK AV AD ck cv cd sep kid w h hk => by
  obtain ⟨leaf, K, V, D, high, bnd, ⟨sl, ge⟩⟩ := n
  exact addN leaf K V D high bnd sl ge AK AV AD ck cv cd sep kid w (in_fits h) hk
theorem split_c (n : Nd) (AK AV AD : Option Addr) (ck cv cd : Nat) (nxt : Hn) (w : World) (h : In w n AK AV AD) :
    Calls Tryd.prog 89 #[.agg #[.bool n.leaf, .slice AK n.keys.length ck, .slice AV n.vals.length cv, .slice AD n.kids.length cd, .string n.high, .bool n.bnd, .int .i64 n.nx.slot, .int .u64 n.nx.gen], .agg #[.int .i64 nxt.slot, .int .u64 nxt.gen]] w fun e w' => SplRes n nxt w e w' := by
  obtain ⟨leaf, K, V, D, high, bnd, ⟨sl, ge⟩⟩ := n
  exact splitN leaf K V D high bnd sl ge AK AV AD ck cv cd nxt w (in_fits h)
end Go.Proofs.YtfplnobnmgbgoaaDoor
namespace Go.Proofs.YtfplnobnmgbgoaaDoor
open Go.RowKit Go.Lib
set_option linter.unusedVariables false
set_option maxRecDepth 20000
set_option maxRecDepth 20000
set_option linter.unusedSimpArgs false

/-- The keys and values of a list of pairs. -/
def Lf (L : List Pr) (K V : List ByteArray) : Prop := L.map Pr.k = K ∧ L.map Pr.v = V
theorem pr_ext : ∀ {L M : List Pr}, L.map Pr.k = M.map Pr.k → L.map Pr.v = M.map Pr.v → L = M
  | [], [], _, _ => rfl
  | ⟨k, v⟩ :: L, ⟨k2, v2⟩ :: M, h1, h2 => by
    injection h1 with e1 e2
    injection h2 with e3 e4
    have e1 : k = k2 := e1
    have e3 : v = v2 := e3
    rw [e1, e3, pr_ext e2 e4]
  | [], _ :: _, h, _ => by simp at h
  | _ :: _, [], h, _ => by simp at h
theorem Lf.len {L : List Pr} {K V : List ByteArray} (h : Lf L K V) : K.length = L.length ∧ V.length = L.length := by
  rw [← h.1, ← h.2, List.length_map, List.length_map]
  exact ⟨rfl, rfl⟩
theorem Lf.zip {L : List Pr} {K V : List ByteArray} (h : Lf L K V) : zipP K V = L := by
  obtain ⟨e1, e2⟩ := zip_keys (K := K) (V := V) (by rw [h.len.1, h.len.2])
  exact pr_ext (by rw [e1, h.1]) (by rw [e2, h.2])
theorem Lf.of {K V : List ByteArray} (h : V.length = K.length) : Lf (zipP K V) K V := zip_keys h
theorem Lf.uniq {L : List Pr} {K V K2 V2 : List ByteArray} (h : Lf L K V) (h2 : Lf L K2 V2) : K = K2 ∧ V = V2 := ⟨h.1.symm.trans h2.1, h.2.symm.trans h2.2⟩
/-- A leaf that is right. -/
def LeafOK (L : List Pr) (high : ByteArray) (bnd : Bool) : Prop := Asc L ∧ (bnd = false → high = ⟨#[]⟩) ∧ (bnd = true → ∀ p ∈ L, kl p.k high)
theorem right_lf {L : List Pr} {K V : List ByteArray} (h : Lf L K V) {high : ByteArray} {bnd : Bool} : RightP true K V.length 0 high bnd ↔ LeafOK L high bnd := by
  have hk : Rk K ↔ Asc L := by rw [asc_keys, h.1]
  have hw : (∀ k ∈ K, kl k high) ↔ ∀ p ∈ L, kl p.k high := by
    rw [← h.1]
    exact ⟨fun hh p hp => hh _ (List.mem_map.2 ⟨p, hp, rfl⟩), fun hh k hk => by
      obtain ⟨p, hp, rfl⟩ := List.mem_map.1 hk
      exact hh p hp⟩
  unfold RightP LeafOK
  rw [hk]
  exact ⟨fun ⟨a, b, c, _⟩ => ⟨a, b, fun e => hw.1 (c e)⟩, fun ⟨a, b, c⟩ => ⟨a, b, fun e => hw.2 (c e), fun _ => ⟨by rw [h.len.1, h.len.2], rfl⟩, fun e => by cases e⟩⟩
theorem mem_put {k v : ByteArray} : ∀ {L : List Pr} {p : Pr}, p ∈ putL L k v → p ∈ L ∨ p = ⟨k, v⟩
  | [], p, h => by
    have : p ∈ [(⟨k, v⟩ : Pr)] := h
    simp at this
    exact .inr this
  | q :: t, p, h => by
    have h : p ∈ (if kl q.k k then q :: putL t k v else if q.k = k then ⟨k, v⟩ :: t else ⟨k, v⟩ :: q :: t) := h
    by_cases h1 : kl q.k k
    · rw [if_pos h1] at h
      rcases List.mem_cons.1 h with e | e
      · exact .inl (e ▸ List.mem_cons_self)
      · exact (mem_put e).imp (List.mem_cons_of_mem _) id
    · rw [if_neg h1] at h
      by_cases h2 : q.k = k
      · rw [if_pos h2] at h
        rcases List.mem_cons.1 h with e | e
        · exact .inr e
        · exact .inl (List.mem_cons_of_mem _ e)
      · rw [if_neg h2] at h
        rcases List.mem_cons.1 h with e | e
        · exact .inr e
        · exact .inl e
theorem mem_del {k : ByteArray} {L : List Pr} {p : Pr} (h : p ∈ delL L k) : p ∈ L := (List.mem_filter.1 h).1
theorem LeafOK.put {L : List Pr} {high : ByteArray} {bnd : Bool} (h : LeafOK L high bnd) {key : ByteArray} (hc : bnd = true → kl key high) (val : ByteArray) : LeafOK (putL L key val) high bnd :=
  ⟨h.1.put key val, h.2.1, fun e p hp => (mem_put hp).elim (fun hm => h.2.2 e p hm) fun he => by rw [he]; exact hc e⟩
theorem LeafOK.del {L : List Pr} {high : ByteArray} {bnd : Bool} (h : LeafOK L high bnd) (key : ByteArray) : LeafOK (delL L key) high bnd := ⟨h.1.del key, h.2.1, fun e p hp => h.2.2 e p (mem_del hp)⟩
/-- Texts within reach, few. -/
def FitL (L : List Pr) (n : Nat) : Prop := (∀ p ∈ L, Fit p.k ∧ Fit p.v) ∧ L.length ≤ n
theorem FitL.put {L : List Pr} {n : Nat} (h : FitL L n) {k v : ByteArray} (hk : Fit k) (hv : Fit v) : FitL (putL L k v) (n + 1) :=
  ⟨fun p hp => (mem_put hp).elim (h.1 p) fun e => by rw [e]; exact ⟨hk, hv⟩, Nat.le_trans (put_length L k v) (Nat.add_le_add_right h.2 1)⟩
theorem FitL.del {L : List Pr} {n : Nat} (h : FitL L n) (k : ByteArray) : FitL (delL L k) n := ⟨fun p hp => h.1 p (mem_del hp), Nat.le_trans (del_length L k) h.2⟩
theorem Lf.fits {L : List Pr} {K V : List ByteArray} (h : Lf L K V) {n : Nat} (hf : FitL L n) : (∀ k ∈ K, Fit k) ∧ (∀ k ∈ V, Fit k) ∧ K.length ≤ n ∧ V.length ≤ n := by
  refine ⟨fun k hk => ?_, fun k hk => ?_, by rw [h.len.1]; exact hf.2, by rw [h.len.2]; exact hf.2⟩
  · rw [← h.1] at hk
    obtain ⟨p, hp, rfl⟩ := List.mem_map.1 hk
    exact (hf.1 p hp).1
  · rw [← h.2] at hk
    obtain ⟨p, hp, rfl⟩ := List.mem_map.1 hk
    exact (hf.1 p hp).2
theorem fitL_of {L : List Pr} {K V : List ByteArray} (h : Lf L K V) {n : Nat} (fk : ∀ k ∈ K, Fit k) (fv : ∀ k ∈ V, Fit k) (hn : K.length ≤ n) : FitL L n :=
  ⟨fun p hp => ⟨fk _ (by rw [← h.1]; exact List.mem_map.2 ⟨p, hp, rfl⟩), fv _ (by rw [← h.2]; exact List.mem_map.2 ⟨p, hp, rfl⟩)⟩, by rw [← h.len.1]; exact hn⟩
/-- A variable that holds a leaf: its cell, and its rows. -/
def Vr (w : World) (r : Nat) (K V : List ByteArray) (D : List Hn) (high : ByteArray) (bnd : Bool) (sl ge : Int) (AK : Option Addr) (ck : Nat) (AV : Option Addr) (cv : Nat) (AD : Option Addr) (cd : Nat) : Prop :=
  At w r (.cells #[.bool true, .slice AK K.length ck, .slice AV V.length cv, .slice AD D.length cd, .string high, .bool bnd, .int .i64 sl, .int .u64 ge] 79 (0, 0)) ∧ In w ⟨true, K, V, D, high, bnd, ⟨sl, ge⟩⟩ AK AV AD
theorem Vr.no {w w2 : World} {r : Nat} {K V : List ByteArray} {D : List Hn} {high : ByteArray} {bnd : Bool} {sl ge : Int} {AK : Option Addr} {ck : Nat} {AV : Option Addr} {cv : Nat} {AD : Option Addr} {cd : Nat} (h : Vr w r K V D high bnd sl ge AK ck AV cv AD cd) (t : Turn No w w2) : Vr w2 r K V D high bnd sl ge AK ck AV cv AD cd := ⟨h.1.no t, h.2.no t⟩
/-- What is known of a leaf. -/
structure Kf (L : List Pr) (K V : List ByteArray) (high : ByteArray) (bnd : Bool) (n : Nat) : Prop where
  lf : Lf L K V
  ok : LeafOK L high bnd
  fit : FitL L n
theorem in_got {w : World} {Z : Nat} {L : List Pr} {K V : List ByteArray} {high : ByteArray} {bnd : Bool} {nx : Hn} {AK AV AD : Option Addr} {D : List Hn} (g : Got Z w ⟨true, K, V, D, high, bnd, nx⟩ AK AV AD) (hD : D.length = 0) (h : Lf L K V) {n : Nat} (hf : FitL L n) (hn : n ≤ 10000) (hh : Fit high) : In w ⟨true, K, V, D, high, bnd, nx⟩ AK AV AD := by
  obtain ⟨a, b, c, d⟩ := h.fits hf
  exact ⟨g.k, g.v, g.d, a, b, hh, Nat.le_trans c hn, Nat.le_trans d hn, by show D.length ≤ 10000; omega⟩
section
variable {w : World} {L : List Pr} {K V : List ByteArray} {D : List Hn} {high : ByteArray} {bnd : Bool} {sl ge : Int} {AK AV AD : Option Addr} (ck cv cd : Nat) {key val : ByteArray}
/-- Put into a leaf that is right and covers. -/
theorem put_l (hL : Lf L K V) (hD : D.length = 0) (hin : In w ⟨true, K, V, D, high, bnd, ⟨sl, ge⟩⟩ AK AV AD) (hok : LeafOK L high bnd) (hc : bnd = true → kl key high) (fk : Fit key) (fv : Fit val) :
    Calls Tryd.prog 47 #[.agg #[.bool true, .slice AK K.length ck, .slice AV V.length cv, .slice AD D.length cd, .string high, .bool bnd, .int .i64 sl, .int .u64 ge], .string key, .string val] w fun e w' =>
      ∃ K1 V1 BK dk BV dv BD dd, e = .returned (.tuple #[.agg #[.bool true, .slice BK K1.length dk, .slice BV V1.length dv, .slice BD D.length dd, .string high, .bool bnd, .int .i64 sl, .int .u64 ge], .string ((getL L key).getD ⟨#[]⟩), .bool (getL L key).isSome]) ∧ Lf (putL L key val) K1 V1 ∧ Got w.heap.size w' ⟨true, K1, V1, D, high, bnd, ⟨sl, ge⟩⟩ BK BV BD ∧ Turn No w w' := by
  refine (put_c ⟨true, K, V, D, high, bnd, ⟨sl, ge⟩⟩ AK AV AD ck cv cd key val w hin fk fv).mono ?_
  rintro e w' ⟨m, BK, dk, BV, dv, BD, dd, old, had, rfl, hp, hg, ht⟩
  obtain ⟨rfl, rfl, rfl⟩ := hp.1 ⟨by show RightP true K V.length D.length high bnd; rw [hD]; exact (right_lf hL).2 hok, rfl, hc⟩
  rw [show zipP (Nd.mk true K V D high bnd ⟨sl, ge⟩).keys (Nd.mk true K V D high bnd ⟨sl, ge⟩).vals = L from hL.zip] at hg ⊢
  exact ⟨_, _, BK, dk, BV, dv, BD, dd, rfl, ⟨rfl, rfl⟩, hg, ht⟩
/-- Delete from a leaf that is right and covers. -/
theorem del_l (hL : Lf L K V) (hD : D.length = 0) (hin : In w ⟨true, K, V, D, high, bnd, ⟨sl, ge⟩⟩ AK AV AD) (hok : LeafOK L high bnd) (hc : bnd = true → kl key high) (fk : Fit key) :
    Calls Tryd.prog 51 #[.agg #[.bool true, .slice AK K.length ck, .slice AV V.length cv, .slice AD D.length cd, .string high, .bool bnd, .int .i64 sl, .int .u64 ge], .string key] w fun e w' =>
      ∃ K1 V1 BK dk BV dv BD dd, e = .returned (.tuple #[.agg #[.bool true, .slice BK K1.length dk, .slice BV V1.length dv, .slice BD D.length dd, .string high, .bool bnd, .int .i64 sl, .int .u64 ge], .string ((getL L key).getD ⟨#[]⟩), .bool (getL L key).isSome]) ∧ Lf (delL L key) K1 V1 ∧ Got w.heap.size w' ⟨true, K1, V1, D, high, bnd, ⟨sl, ge⟩⟩ BK BV BD ∧ Turn No w w' := by
  refine (del_c ⟨true, K, V, D, high, bnd, ⟨sl, ge⟩⟩ AK AV AD ck cv cd key w hin fk).mono ?_
  rintro e w' ⟨m, BK, dk, BV, dv, BD, dd, old, had, rfl, hp, hg, ht⟩
  obtain ⟨rfl, rfl, rfl⟩ := hp.1 ⟨by show RightP true K V.length D.length high bnd; rw [hD]; exact (right_lf hL).2 hok, rfl, hc⟩
  rw [show zipP (Nd.mk true K V D high bnd ⟨sl, ge⟩).keys (Nd.mk true K V D high bnd ⟨sl, ge⟩).vals = L from hL.zip] at hg ⊢
  exact ⟨_, _, BK, dk, BV, dv, BD, dd, rfl, ⟨rfl, rfl⟩, hg, ht⟩
end
theorem Vr.new {w : World} {Z : Nat} {L : List Pr} {K V : List ByteArray} {D : List Hn} {high : ByteArray} {bnd : Bool} {sl ge : Int} {AK AV AD : Option Addr} (ck cv cd : Nat) {n : Nat} (hk : Kf L K V high bnd n) (hD : D.length = 0) (hh : Fit high) (hn : n ≤ 10000) (g : Got Z w ⟨true, K, V, D, high, bnd, ⟨sl, ge⟩⟩ AK AV AD) :
    Vr (w.alloc (.cells #[.bool true, .slice AK K.length ck, .slice AV V.length cv, .slice AD D.length cd, .string high, .bool bnd, .int .i64 sl, .int .u64 ge] 79)) w.heap.size K V D high bnd sl ge AK ck AV cv AD cd := by
  have tn : Turn No w (w.alloc (.cells #[.bool true, .slice AK K.length ck, .slice AV V.length cv, .slice AD D.length cd, .string high, .bool bnd, .int .i64 sl, .int .u64 ge] 79)) := (Turn.refl _ _).alloc _
  exact ⟨At.new _ _, (in_got g hD hk.lf hk.fit hn hh).no tn⟩
theorem right_yes (n : Nd) (AK AV AD : Option Addr) (ck cv cd : Nat) (w : World) (h : In w n AK AV AD) (hr : NdRight n) : Calls Tryd.prog 80 #[.agg #[.bool n.leaf, .slice AK n.keys.length ck, .slice AV n.vals.length cv, .slice AD n.kids.length cd, .string n.high, .bool n.bnd, .int .i64 n.nx.slot, .int .u64 n.nx.gen]] w fun e w' => e = .returned (.bool true) ∧ Turn No w w' := by
  refine (right_c n AK AV AD ck cv cd w h).mono ?_
  rintro e w' ⟨b, rfl, hb, ht⟩
  exact ⟨by rw [hb.2 hr], ht⟩
theorem right_kf {L : List Pr} {K V : List ByteArray} {D : List Hn} {high : ByteArray} {bnd : Bool} {sl ge : Int} {n : Nat} (h : Kf L K V high bnd n) (hD : D.length = 0) : NdRight ⟨true, K, V, D, high, bnd, ⟨sl, ge⟩⟩ := by
  show RightP true K V.length D.length high bnd
  rw [hD]
  exact (right_lf h.lf).2 h.ok
theorem row_wt {w w2 : World} {t s n r : Nat} {A : Option Addr} {xs : List Value} {c : Array Value} {f : Nat × Nat} {t' : Nat} (h : Row w A xs) (hl : xs.length = n * s) (wt : Wt w t s A n) (hr : At w r (.cells c t' f)) (ht : t ≠ t') (tu : Turn (fun k => k = r) w w2) : Row w2 A xs := by
  rcases wt with h0 | ⟨b, off, cur, hA, hat, _⟩
  · rw [h0, Nat.zero_mul] at hl
    rw [List.eq_nil_of_length_eq_zero hl]
    exact Row.nil _ _
  · refine h.turn tu fun b' o' hA' e => ?_
    rw [hA] at hA'
    injection hA' with hA'
    injection hA' with e1 _
    subst e1
    subst e
    have := hat.eq hr
    injection this with _ e2 _
    exact ht e2
/-- A node's rows where another node is written. -/
theorem Got.wr {Z : Nat} {w w2 : World} {n : Nd} {AK AV AD : Option Addr} {r : Nat} {c : Array Value} {f : Nat × Nat} (h : Got Z w n AK AV AD) (hr : At w r (.cells c 79 f)) (tu : Turn (fun k => k = r) w w2) : Row w2 AK (kcs n.keys) ∧ Row w2 AV (kcs n.vals) ∧ Row w2 AD (hcs n.kids) :=
  ⟨row_wt h.k (by rw [kcs_length, Nat.mul_one]) h.wk hr (by decide) tu, row_wt h.v (by rw [kcs_length, Nat.mul_one]) h.wv hr (by decide) tu, row_wt h.d (hcs_length _) h.wd hr (by decide) tu⟩
end Go.Proofs.YtfplnobnmgbgoaaDoor
namespace Go.Proofs.YtfplnobnmgbgoaaDoor
open Go.RowKit Go.Lib
set_option linter.unusedVariables false
set_option maxRecDepth 20000
set_option maxRecDepth 20000
set_option linter.unusedSimpArgs false

theorem bytesLess_cmp : ∀ a b : List UInt8, Op.bytesLess a b = decide (Math.cmp a b = -1)
  | [], [] => by rfl
  | x :: a, [] => by rfl
  | [], y :: b => by rfl
  | x :: a, y :: b => by
    show (decide (x < y) || (x == y && Op.bytesLess a b)) = _
    rcases Math.u8_tri x y with h | h | h
    · rw [Math.cmp_lt h, decide_eq_true h]; rfl
    · subst h
      rw [Math.cmp_eq, bytesLess_cmp a b, decide_eq_false (UInt8.lt_irrefl x)]
      simp
    · have h1 : ¬ x < y := fun h2 => UInt8.lt_irrefl x (UInt8.lt_trans h2 h)
      have h2 : (x == y) = false := by
        rw [beq_eq_false_iff_ne]
        intro e
        subst e
        exact UInt8.lt_irrefl x h
      rw [Math.cmp_gt h, decide_eq_false h1, h2]
      rfl
/-- The walk's '<' on texts. -/
theorem sless (a b : ByteArray) : Op.bytesLess a.toList b.toList = decide (kl a b) := by
  rw [bytesLess_cmp, ByteArray.toList_eq, ByteArray.toList_eq]
  have h : Math.cmp a.data.toList b.data.toList = kcmp a b := rfl
  rw [h]
  have := kcmp_range a b
  unfold kl
  exact decide_eq_decide.2 (by omega)
theorem covers_yes (n : Nd) (AK AV AD : Option Addr) (ck cv cd : Nat) (key : ByteArray) (w : World) (h : In w n AK AV AD) (fk : Fit key) (hr : NdCov n key) : Calls Tryd.prog 57 #[.agg #[.bool n.leaf, .slice AK n.keys.length ck, .slice AV n.vals.length cv, .slice AD n.kids.length cd, .string n.high, .bool n.bnd, .int .i64 n.nx.slot, .int .u64 n.nx.gen], .string key] w fun e w' => e = .returned (.bool true) ∧ Turn No w w' := by
  refine (covers_c n AK AV AD ck cv cd key w h fk).mono ?_
  rintro e w' ⟨b, rfl, hb, ht⟩
  exact ⟨by rw [hb.2 hr], ht⟩
theorem covers_no (n : Nd) (AK AV AD : Option Addr) (ck cv cd : Nat) (key : ByteArray) (w : World) (h : In w n AK AV AD) (fk : Fit key) (hr : ¬ NdCov n key) : Calls Tryd.prog 57 #[.agg #[.bool n.leaf, .slice AK n.keys.length ck, .slice AV n.vals.length cv, .slice AD n.kids.length cd, .string n.high, .bool n.bnd, .int .i64 n.nx.slot, .int .u64 n.nx.gen], .string key] w fun e w' => e = .returned (.bool false) ∧ Turn No w w' := by
  refine (covers_c n AK AV AD ck cv cd key w h fk).mono ?_
  rintro e w' ⟨b, rfl, hb, ht⟩
  cases b with
  | false => exact ⟨rfl, ht⟩
  | true => exact absurd (hb.1 rfl) hr
theorem kid_yes (n : Nd) (AK AV AD : Option Addr) (ck cv cd : Nat) (key : ByteArray) (w : World) (h : In w n AK AV AD) (fk : Fit key) (hr : NdRight n ∧ n.leaf = false ∧ NdCov n key) {hh : Hn} (hk : n.kids[kix n.keys key]? = some hh) : Calls Tryd.prog 65 #[.agg #[.bool n.leaf, .slice AK n.keys.length ck, .slice AV n.vals.length cv, .slice AD n.kids.length cd, .string n.high, .bool n.bnd, .int .i64 n.nx.slot, .int .u64 n.nx.gen], .string key] w fun e w' => e = .returned (.tuple #[.agg #[.int .i64 hh.slot, .int .u64 hh.gen], .bool true]) ∧ Turn No w w' := by
  refine (kid_c n AK AV AD ck cv cd key w h fk).mono ?_
  rintro e w' ⟨h2, is, rfl, hb, ht⟩
  obtain ⟨rfl, h3⟩ := hb.1 hr
  rw [hk] at h3
  injection h3 with h3
  subst h3
  exact ⟨rfl, ht⟩
theorem kid_no (n : Nd) (AK AV AD : Option Addr) (ck cv cd : Nat) (key : ByteArray) (w : World) (h : In w n AK AV AD) (fk : Fit key) (hr : ¬ (NdRight n ∧ n.leaf = false ∧ NdCov n key)) : Calls Tryd.prog 65 #[.agg #[.bool n.leaf, .slice AK n.keys.length ck, .slice AV n.vals.length cv, .slice AD n.kids.length cd, .string n.high, .bool n.bnd, .int .i64 n.nx.slot, .int .u64 n.nx.gen], .string key] w fun e w' => e = .returned (.tuple #[.agg #[.int .i64 0, .int .u64 0], .bool false]) ∧ Turn No w w' := by
  refine (kid_c n AK AV AD ck cv cd key w h fk).mono ?_
  rintro e w' ⟨h2, is, rfl, hb, ht⟩
  obtain ⟨rfl, rfl⟩ := hb.2 hr
  exact ⟨rfl, ht⟩
/-- The kid that a right node leads to is there. -/
theorem kid_there {n : Nd} (h : NdRight n) (hl : n.leaf = false) (key : ByteArray) : ∃ hh, n.kids[kix n.keys key]? = some hh := by
  have h1 := (h.2.2.2.2 hl).2
  have h2 := kix_le n.keys key
  exact ⟨n.kids[kix n.keys key]'(by omega), List.getElem?_eq_getElem (by omega)⟩
/-- What Add makes of a right inner node is right. -/
theorem right_add {leaf : Bool} {K V : List ByteArray} {D : List Hn} {high : ByteArray} {bnd : Bool} {nx : Hn} {sep : ByteArray} {kid : Hn} (h : AddO ⟨leaf, K, V, D, high, bnd, nx⟩ sep) : NdRight ⟨leaf, ins K (plc K sep) sep, V, ins D (plc K sep + 1) kid, high, bnd, nx⟩ := by
  obtain ⟨⟨a, b, c, d, e⟩, hl, hc, hn⟩ := h
  have hl : leaf = false := hl
  subst hl
  obtain ⟨e1, e2⟩ := e rfl
  have e1 : V.length = 0 := e1
  have e2 : D.length = K.length + 1 := e2
  have hp := plc_le K sep
  refine ⟨rk_ins a hn, b, fun hb k hk => ?_, fun h => (by cases h), fun _ => ⟨e1, ?_⟩⟩
  · rcases mem_ins.1 hk with e | e
    · rw [e]; exact hc hb
    · exact c hb k e
  · show (ins D (plc K sep + 1) kid).length = (ins K (plc K sep) sep).length + 1
    rw [ins_length D (by omega), ins_length K hp, e2]
section
variable {leaf : Bool} {K V : List ByteArray} {D : List Hn} {high : ByteArray} {bnd : Bool} {sl ge : Int} {AK AV AD : Option Addr} (ck cv cd : Nat) {sep : ByteArray} {kid : Hn} {w : World}
theorem add_yes (hin : In w ⟨leaf, K, V, D, high, bnd, ⟨sl, ge⟩⟩ AK AV AD) (fs : Fit sep) (ho : AddO ⟨leaf, K, V, D, high, bnd, ⟨sl, ge⟩⟩ sep) {K1 : List ByteArray} {D1 : List Hn} (h1 : ins K (plc K sep) sep = K1) (h2 : ins D (plc K sep + 1) kid = D1) :
    Calls Tryd.prog 73 #[.agg #[.bool leaf, .slice AK K.length ck, .slice AV V.length cv, .slice AD D.length cd, .string high, .bool bnd, .int .i64 sl, .int .u64 ge], .string sep, .agg #[.int .i64 kid.slot, .int .u64 kid.gen]] w fun e w' =>
      ∃ BK dk BV dv BD dd, e = .returned (.agg #[.bool leaf, .slice BK K1.length dk, .slice BV V.length dv, .slice BD D1.length dd, .string high, .bool bnd, .int .i64 sl, .int .u64 ge]) ∧ Got w.heap.size w' ⟨leaf, K1, V, D1, high, bnd, ⟨sl, ge⟩⟩ BK BV BD ∧ Turn No w w' := by
  refine (add_c ⟨leaf, K, V, D, high, bnd, ⟨sl, ge⟩⟩ AK AV AD ck cv cd sep kid w hin fs).mono ?_
  rintro e w' ⟨m, BK, dk, BV, dv, BD, dd, rfl, hp, hg, ht⟩
  have hm := hp.1 ho
  subst hm
  subst h1 h2
  exact ⟨BK, dk, BV, dv, BD, dd, rfl, hg, ht⟩
theorem add_no (hin : In w ⟨leaf, K, V, D, high, bnd, ⟨sl, ge⟩⟩ AK AV AD) (fs : Fit sep) (ho : ¬ AddO ⟨leaf, K, V, D, high, bnd, ⟨sl, ge⟩⟩ sep) :
    Calls Tryd.prog 73 #[.agg #[.bool leaf, .slice AK K.length ck, .slice AV V.length cv, .slice AD D.length cd, .string high, .bool bnd, .int .i64 sl, .int .u64 ge], .string sep, .agg #[.int .i64 kid.slot, .int .u64 kid.gen]] w fun e w' =>
      ∃ BK dk BV dv BD dd, e = .returned (.agg #[.bool leaf, .slice BK K.length dk, .slice BV V.length dv, .slice BD D.length dd, .string high, .bool bnd, .int .i64 sl, .int .u64 ge]) ∧ Got w.heap.size w' ⟨leaf, K, V, D, high, bnd, ⟨sl, ge⟩⟩ BK BV BD ∧ Turn No w w' := by
  refine (add_c ⟨leaf, K, V, D, high, bnd, ⟨sl, ge⟩⟩ AK AV AD ck cv cd sep kid w hin fs).mono ?_
  rintro e w' ⟨m, BK, dk, BV, dv, BD, dd, rfl, hp, hg, ht⟩
  have hm := hp.2 ho
  subst hm
  exact ⟨BK, dk, BV, dv, BD, dd, rfl, hg, ht⟩
end
theorem in_same {w w0 : World} {Z : Nat} {n : Nd} {AK AV AD BK BV BD : Option Addr} (h : In w0 n AK AV AD) (g : Got Z w n BK BV BD) : In w n BK BV BD := ⟨g.k, g.v, g.d, h.fk, h.fv, h.fh, h.lk, h.lv, h.ld⟩
end Go.Proofs.YtfplnobnmgbgoaaDoor
namespace Go.Proofs.YtfplnobnmgbgoaaDoor
open Go.RowKit Go.Lib
set_option linter.unusedVariables false
set_option maxRecDepth 20000
set_option maxRecDepth 20000
set_option linter.unusedSimpArgs false

theorem in_add {w : World} {Z : Nat} {leaf : Bool} {K V : List ByteArray} {D : List Hn} {high : ByteArray} {bnd : Bool} {nx kid : Hn} {sep : ByteArray} {w0 : World} {AK AV AD BK BV BD : Option Addr} (h : In w0 ⟨leaf, K, V, D, high, bnd, nx⟩ AK AV AD) (k3 : K.length ≤ 9000) (d3 : D.length ≤ 9000) (fs : Fit sep) (hi : plc K sep + 1 ≤ D.length) (g : Got Z w ⟨leaf, ins K (plc K sep) sep, V, ins D (plc K sep + 1) kid, high, bnd, nx⟩ BK BV BD) : In w ⟨leaf, ins K (plc K sep) sep, V, ins D (plc K sep + 1) kid, high, bnd, nx⟩ BK BV BD :=
  ⟨g.k, g.v, g.d, fun k hk => (mem_ins.1 hk).elim (fun e => e ▸ fs) (h.fk k), h.fv, h.fh, by show (ins K (plc K sep) sep).length ≤ 10000; rw [ins_length K (plc_le K sep)]; omega, h.lv, by show (ins D (plc K sep + 1) kid).length ≤ 10000; rw [ins_length D hi]; omega⟩
theorem rk_take_low {K : List ByteArray} (h : Rk K) {i : Nat} {y q : ByteArray} (hy : K[i]? = some y) (h1 : ∀ x ∈ K.take i, ¬ kl q x) (h2 : kl q y) : kix K q = i := by
  obtain ⟨e, ha, hb⟩ := half_cut h hy
  have hl := (List.getElem?_eq_some_iff.1 hy).1
  conv => lhs; rw [e]
  rw [kix_append, kix_all h1, kix_none (A := y :: K.drop (i + 1)) fun x hx => (List.mem_cons.1 hx).elim (fun e => e ▸ h2) fun hx => kl_trans h2 (hb x hx), List.length_take]
  omega
/-- The least key above one. -/
def Abv (K : List ByteArray) (sep nxt : ByteArray) : Prop := nxt ∈ K ∧ kl sep nxt ∧ ∀ x ∈ K, kl sep x → ¬ kl x nxt
theorem abv_of {K : List ByteArray} (h : Rk K) {i : Nat} {y sep : ByteArray} (hy : K[i]? = some y) (h1 : ∀ x ∈ K.take i, ¬ kl sep x) (h2 : kl sep y) : Abv K sep y := by
  obtain ⟨e, ha, hb⟩ := half_cut h hy
  refine ⟨List.mem_of_getElem? hy, h2, fun x hx hs => ?_⟩
  rw [e] at hx
  rcases List.mem_append.1 hx with h3 | h3
  · exact absurd hs (h1 x h3)
  · rcases List.mem_cons.1 h3 with h4 | h4
    · rw [h4]; exact kl_irrefl y
    · exact kl_asymm (hb x h4)
theorem abv_all {K : List ByteArray} {sep nxt key : ByteArray} (h : Abv K sep nxt) : (∀ x ∈ K, kl sep x → kl key x) ↔ kl key nxt :=
  ⟨fun hh => hh nxt h.1 h.2.1, fun hh x hx hs => kl_lt_le hh (h.2.2 x hx hs)⟩
theorem at2 {w : World} {g : Nat} {v0 v1 : Value} {t : TypeId} {f : Nat × Nat} (h : At w g (.cells #[v0, v1] t f)) : w.cell? ⟨g, 0, none⟩ = some v0 ∧ w.cell? ⟨g, 1, none⟩ = some v1 := ⟨h.cell 0, h.cell 1⟩
theorem neq_same (s g : Int) : ∀ w : World, (binOp .neq 77 (.agg #[.int .i64 s, .int .u64 g]) (.agg #[.int .i64 s, .int .u64 g])).run Tryd.prog w = .ok (.bool false) w := fun w => by
  have := neq_hn s s g g w
  rw [hnEq_same] at this
  exact this
theorem eql_same (s g : Int) : ∀ w : World, (binOp .eql 77 (.agg #[.int .i64 s, .int .u64 g]) (.agg #[.int .i64 s, .int .u64 g])).run Tryd.prog w = .ok (.bool true) w := fun w => by
  have := eql_hn s s g g w
  rw [hnEq_same] at this
  exact this
end Go.Proofs.YtfplnobnmgbgoaaDoor
namespace Go.Proofs.YtfplnobnmgbgoaaDoor
open Go.RowKit Go.Lib
set_option linter.unusedVariables false
set_option maxRecDepth 20000
set_option maxRecDepth 20000
set_option linter.unusedSimpArgs false

/-- What Put makes of a right node. -/
theorem put_ok {leaf : Bool} {K V : List ByteArray} {D : List Hn} {high : ByteArray} {bnd : Bool} {nx : Hn} {key val old : ByteArray} {had : Bool} {m : Nd} (hr : NdRight ⟨leaf, K, V, D, high, bnd, nx⟩) (h : PutR ⟨leaf, K, V, D, high, bnd, nx⟩ key val m old had) :
    ∃ K1 V1, m = ⟨leaf, K1, V1, D, high, bnd, nx⟩ ∧ NdRight ⟨leaf, K1, V1, D, high, bnd, nx⟩ ∧ (∀ k ∈ K1, k ∈ K ∨ k = key) ∧ (∀ v ∈ V1, v ∈ V ∨ v = val) ∧ K1.length ≤ K.length + 1 ∧ V1.length ≤ V.length + 1 ∧ (LeafR ⟨leaf, K, V, D, high, bnd, nx⟩ key → Lf (putL (zipP K V) key val) K1 V1 ∧ had = (getL (zipP K V) key).isSome) ∧ (¬ LeafR ⟨leaf, K, V, D, high, bnd, nx⟩ key → K1 = K ∧ V1 = V ∧ had = false) := by
  by_cases hl : LeafR ⟨leaf, K, V, D, high, bnd, nx⟩ key
  · obtain ⟨rfl, rfl, rfl⟩ := h.1 hl
    obtain ⟨_, hlf, hc⟩ := hl
    have hlf : leaf = true := hlf
    subst hlf
    have hvl : V.length = K.length := (hr.2.2.2.1 rfl).1
    have hD : D.length = 0 := (hr.2.2.2.1 rfl).2
    have hLf := Lf.of hvl
    have hok : LeafOK (zipP K V) high bnd := (right_lf hLf).1 (by have := hr; unfold NdRight at this; simp only [hD] at this; exact this)
    refine ⟨_, _, rfl, ?_, ?_, ?_, ?_, ?_, fun _ => ⟨⟨rfl, rfl⟩, rfl⟩, fun h => absurd ⟨hr, rfl, hc⟩ h⟩
    · show RightP true _ _ D.length high bnd
      rw [hD]
      exact (right_lf (L := putL (zipP K V) key val) ⟨rfl, rfl⟩).2 (hok.put hc val)
    · intro k hk
      obtain ⟨p, hp, rfl⟩ := List.mem_map.1 hk
      rcases mem_put hp with e | e
      · exact .inl (by have : p.k ∈ (zipP K V).map Pr.k := List.mem_map.2 ⟨p, e, rfl⟩; rwa [hLf.1] at this)
      · exact .inr (by rw [e])
    · intro k hk
      obtain ⟨p, hp, rfl⟩ := List.mem_map.1 hk
      rcases mem_put hp with e | e
      · exact .inl (by have : p.v ∈ (zipP K V).map Pr.v := List.mem_map.2 ⟨p, e, rfl⟩; rwa [hLf.2] at this)
      · exact .inr (by rw [e])
    · rw [List.length_map, hLf.len.1]; exact put_length _ _ _
    · rw [List.length_map, hLf.len.2]; exact put_length _ _ _
  · obtain ⟨rfl, rfl, rfl⟩ := h.2 hl
    exact ⟨K, V, rfl, hr, fun k hk => .inl hk, fun k hk => .inl hk, by omega, by omega, fun h => absurd h hl, fun _ => ⟨rfl, rfl, rfl⟩⟩
theorem del_ok {leaf : Bool} {K V : List ByteArray} {D : List Hn} {high : ByteArray} {bnd : Bool} {nx : Hn} {key old : ByteArray} {had : Bool} {m : Nd} (hr : NdRight ⟨leaf, K, V, D, high, bnd, nx⟩) (h : DelR ⟨leaf, K, V, D, high, bnd, nx⟩ key m old had) :
    ∃ K1 V1, m = ⟨leaf, K1, V1, D, high, bnd, nx⟩ ∧ NdRight ⟨leaf, K1, V1, D, high, bnd, nx⟩ ∧ (∀ k ∈ K1, k ∈ K) ∧ (∀ v ∈ V1, v ∈ V) ∧ K1.length ≤ K.length ∧ V1.length ≤ V.length ∧ (LeafR ⟨leaf, K, V, D, high, bnd, nx⟩ key → Lf (delL (zipP K V) key) K1 V1 ∧ had = (getL (zipP K V) key).isSome) ∧ (¬ LeafR ⟨leaf, K, V, D, high, bnd, nx⟩ key → K1 = K ∧ V1 = V ∧ had = false) := by
  by_cases hl : LeafR ⟨leaf, K, V, D, high, bnd, nx⟩ key
  · obtain ⟨rfl, rfl, rfl⟩ := h.1 hl
    obtain ⟨_, hlf, hc⟩ := hl
    have hlf : leaf = true := hlf
    subst hlf
    have hvl : V.length = K.length := (hr.2.2.2.1 rfl).1
    have hD : D.length = 0 := (hr.2.2.2.1 rfl).2
    have hLf := Lf.of hvl
    have hok : LeafOK (zipP K V) high bnd := (right_lf hLf).1 (by have := hr; unfold NdRight at this; simp only [hD] at this; exact this)
    refine ⟨_, _, rfl, ?_, ?_, ?_, ?_, ?_, fun _ => ⟨⟨rfl, rfl⟩, rfl⟩, fun h => absurd ⟨hr, rfl, hc⟩ h⟩
    · show RightP true _ _ D.length high bnd
      rw [hD]
      exact (right_lf (L := delL (zipP K V) key) ⟨rfl, rfl⟩).2 (hok.del key)
    · intro k hk
      obtain ⟨p, hp, rfl⟩ := List.mem_map.1 hk
      have : p.k ∈ (zipP K V).map Pr.k := List.mem_map.2 ⟨p, mem_del hp, rfl⟩
      rwa [hLf.1] at this
    · intro k hk
      obtain ⟨p, hp, rfl⟩ := List.mem_map.1 hk
      have : p.v ∈ (zipP K V).map Pr.v := List.mem_map.2 ⟨p, mem_del hp, rfl⟩
      rwa [hLf.2] at this
    · rw [List.length_map, hLf.len.1]; exact del_length _ _
    · rw [List.length_map, hLf.len.2]; exact del_length _ _
  · obtain ⟨rfl, rfl, rfl⟩ := h.2 hl
    exact ⟨K, V, rfl, hr, fun k hk => hk, fun k hk => hk, by omega, by omega, fun h => absurd h hl, fun _ => ⟨rfl, rfl, rfl⟩⟩
theorem in_ch {w w0 : World} {Z : Nat} {leaf : Bool} {K V K1 V1 : List ByteArray} {D : List Hn} {high : ByteArray} {bnd : Bool} {nx : Hn} {AK AV AD BK BV BD : Option Addr} (h : In w0 ⟨leaf, K, V, D, high, bnd, nx⟩ AK AV AD) (g : Got Z w ⟨leaf, K1, V1, D, high, bnd, nx⟩ BK BV BD) (fk : ∀ k ∈ K1, Fit k) (fv : ∀ k ∈ V1, Fit k) (l1 : K1.length ≤ 10000) (l2 : V1.length ≤ 10000) : In w ⟨leaf, K1, V1, D, high, bnd, nx⟩ BK BV BD := ⟨g.k, g.v, g.d, fk, fv, h.fh, l1, l2, h.ld⟩
section
variable {leaf : Bool} {K V : List ByteArray} {D : List Hn} {high : ByteArray} {bnd : Bool} {sl ge : Int} {AK AV AD : Option Addr} (ck cv cd : Nat) {key val : ByteArray} {w : World}
theorem put_g (hin : In w ⟨leaf, K, V, D, high, bnd, ⟨sl, ge⟩⟩ AK AV AD) (hr : NdRight ⟨leaf, K, V, D, high, bnd, ⟨sl, ge⟩⟩) (k3 : K.length ≤ 9000) (v3 : V.length ≤ 9000) (fk : Fit key) (fv : Fit val) :
    Calls Tryd.prog 47 #[.agg #[.bool leaf, .slice AK K.length ck, .slice AV V.length cv, .slice AD D.length cd, .string high, .bool bnd, .int .i64 sl, .int .u64 ge], .string key, .string val] w fun e w' =>
      ∃ K1 V1 BK dk BV dv BD dd old had, e = .returned (.tuple #[.agg #[.bool leaf, .slice BK K1.length dk, .slice BV V1.length dv, .slice BD D.length dd, .string high, .bool bnd, .int .i64 sl, .int .u64 ge], .string old, .bool had]) ∧ In w' ⟨leaf, K1, V1, D, high, bnd, ⟨sl, ge⟩⟩ BK BV BD ∧ NdRight ⟨leaf, K1, V1, D, high, bnd, ⟨sl, ge⟩⟩ ∧ (LeafR ⟨leaf, K, V, D, high, bnd, ⟨sl, ge⟩⟩ key → Lf (putL (zipP K V) key val) K1 V1 ∧ had = (getL (zipP K V) key).isSome) ∧ (¬ LeafR ⟨leaf, K, V, D, high, bnd, ⟨sl, ge⟩⟩ key → K1 = K ∧ V1 = V ∧ had = false) ∧ Turn No w w' := by
  refine (put_c ⟨leaf, K, V, D, high, bnd, ⟨sl, ge⟩⟩ AK AV AD ck cv cd key val w hin fk fv).mono ?_
  rintro e w' ⟨m, BK, dk, BV, dv, BD, dd, old, had, rfl, hp, hg, ht⟩
  obtain ⟨K1, V1, rfl, h1, h2, h3, h4, h5, h6, h7⟩ := put_ok hr hp
  exact ⟨K1, V1, BK, dk, BV, dv, BD, dd, old, had, rfl, in_ch hin hg (fun k hk => (h2 k hk).elim (hin.fk k) fun e => e ▸ fk) (fun k hk => (h3 k hk).elim (hin.fv k) fun e => e ▸ fv) (by omega) (by omega), h1, h6, h7, ht⟩
theorem del_g (hin : In w ⟨leaf, K, V, D, high, bnd, ⟨sl, ge⟩⟩ AK AV AD) (hr : NdRight ⟨leaf, K, V, D, high, bnd, ⟨sl, ge⟩⟩) (fk : Fit key) :
    Calls Tryd.prog 51 #[.agg #[.bool leaf, .slice AK K.length ck, .slice AV V.length cv, .slice AD D.length cd, .string high, .bool bnd, .int .i64 sl, .int .u64 ge], .string key] w fun e w' =>
      ∃ K1 V1 BK dk BV dv BD dd old had, e = .returned (.tuple #[.agg #[.bool leaf, .slice BK K1.length dk, .slice BV V1.length dv, .slice BD D.length dd, .string high, .bool bnd, .int .i64 sl, .int .u64 ge], .string old, .bool had]) ∧ In w' ⟨leaf, K1, V1, D, high, bnd, ⟨sl, ge⟩⟩ BK BV BD ∧ NdRight ⟨leaf, K1, V1, D, high, bnd, ⟨sl, ge⟩⟩ ∧ (LeafR ⟨leaf, K, V, D, high, bnd, ⟨sl, ge⟩⟩ key → Lf (delL (zipP K V) key) K1 V1 ∧ had = (getL (zipP K V) key).isSome) ∧ (¬ LeafR ⟨leaf, K, V, D, high, bnd, ⟨sl, ge⟩⟩ key → K1 = K ∧ V1 = V ∧ had = false) ∧ Turn No w w' := by
  refine (del_c ⟨leaf, K, V, D, high, bnd, ⟨sl, ge⟩⟩ AK AV AD ck cv cd key w hin fk).mono ?_
  rintro e w' ⟨m, BK, dk, BV, dv, BD, dd, old, had, rfl, hp, hg, ht⟩
  obtain ⟨K1, V1, rfl, h1, h2, h3, h4, h5, h6, h7⟩ := del_ok hr hp
  have := hin.lk
  have := hin.lv
  exact ⟨K1, V1, BK, dk, BV, dv, BD, dd, old, had, rfl, in_ch hin hg (fun k hk => hin.fk k (h2 k hk)) (fun k hk => hin.fv k (h3 k hk)) (Nat.le_trans h4 hin.lk) (Nat.le_trans h5 hin.lv), h1, h6, h7, ht⟩
theorem add_g {kid : Hn} (hin : In w ⟨leaf, K, V, D, high, bnd, ⟨sl, ge⟩⟩ AK AV AD) (hr : NdRight ⟨leaf, K, V, D, high, bnd, ⟨sl, ge⟩⟩) (k3 : K.length ≤ 9000) (d3 : D.length ≤ 9000) (fk : Fit key) :
    Calls Tryd.prog 73 #[.agg #[.bool leaf, .slice AK K.length ck, .slice AV V.length cv, .slice AD D.length cd, .string high, .bool bnd, .int .i64 sl, .int .u64 ge], .string key, .agg #[.int .i64 kid.slot, .int .u64 kid.gen]] w fun e w' =>
      ∃ K1 D1 BK dk BV dv BD dd, e = .returned (.agg #[.bool leaf, .slice BK K1.length dk, .slice BV V.length dv, .slice BD D1.length dd, .string high, .bool bnd, .int .i64 sl, .int .u64 ge]) ∧ In w' ⟨leaf, K1, V, D1, high, bnd, ⟨sl, ge⟩⟩ BK BV BD ∧ NdRight ⟨leaf, K1, V, D1, high, bnd, ⟨sl, ge⟩⟩ ∧ Turn No w w' := by
  by_cases ho : AddO ⟨leaf, K, V, D, high, bnd, ⟨sl, ge⟩⟩ key
  · refine (add_yes ck cv cd hin fk ho rfl rfl).mono ?_
    rintro e w' ⟨BK, dk, BV, dv, BD, dd, rfl, hg, ht⟩
    have hl : leaf = false := ho.2.1
    subst hl
    have e : D.length = K.length + 1 := (hr.2.2.2.2 rfl).2
    exact ⟨_, _, BK, dk, BV, dv, BD, dd, rfl, in_add hin k3 d3 fk (by have := plc_le K key; omega) hg, right_add ho, ht⟩
  · refine (add_no ck cv cd hin fk ho).mono ?_
    rintro e w' ⟨BK, dk, BV, dv, BD, dd, rfl, hg, ht⟩
    exact ⟨K, D, BK, dk, BV, dv, BD, dd, rfl, in_same hin hg, hr, ht⟩
end
theorem right_no (n : Nd) (AK AV AD : Option Addr) (ck cv cd : Nat) (w : World) (h : In w n AK AV AD) (hr : ¬ NdRight n) : Calls Tryd.prog 80 #[.agg #[.bool n.leaf, .slice AK n.keys.length ck, .slice AV n.vals.length cv, .slice AD n.kids.length cd, .string n.high, .bool n.bnd, .int .i64 n.nx.slot, .int .u64 n.nx.gen]] w fun e w' => e = .returned (.bool false) ∧ Turn No w w' := by
  refine (right_c n AK AV AD ck cv cd w h).mono ?_
  rintro e w' ⟨b, rfl, hb, ht⟩
  cases b with
  | false => exact ⟨rfl, ht⟩
  | true => exact absurd (hb.1 rfl) hr
/-- Put into a node that takes nothing: the node itself. -/
theorem put_no (n : Nd) (AK AV AD : Option Addr) (ck cv cd : Nat) (key val : ByteArray) (w : World) (h : In w n AK AV AD) (fk : Fit key) (fv : Fit val) (hl : ¬ LeafR n key) : Calls Tryd.prog 47 #[.agg #[.bool n.leaf, .slice AK n.keys.length ck, .slice AV n.vals.length cv, .slice AD n.kids.length cd, .string n.high, .bool n.bnd, .int .i64 n.nx.slot, .int .u64 n.nx.gen], .string key, .string val] w fun e w' =>
    ∃ BK dk BV dv BD dd, e = .returned (.tuple #[.agg #[.bool n.leaf, .slice BK n.keys.length dk, .slice BV n.vals.length dv, .slice BD n.kids.length dd, .string n.high, .bool n.bnd, .int .i64 n.nx.slot, .int .u64 n.nx.gen], .string ⟨#[]⟩, .bool false]) ∧ In w' n BK BV BD ∧ Turn No w w' := by
  refine (put_c n AK AV AD ck cv cd key val w h fk fv).mono ?_
  rintro e w' ⟨m, BK, dk, BV, dv, BD, dd, old, had, rfl, hp, hg, ht⟩
  obtain ⟨rfl, rfl, rfl⟩ := hp.2 hl
  exact ⟨BK, dk, BV, dv, BD, dd, rfl, in_same h hg, ht⟩
/-- Split of what isn't split. -/
theorem split_no (n : Nd) (AK AV AD : Option Addr) (ck cv cd : Nat) (nxt : Hn) (w : World) (h : In w n AK AV AD) (hl : ¬ SplO n) : Calls Tryd.prog 89 #[.agg #[.bool n.leaf, .slice AK n.keys.length ck, .slice AV n.vals.length cv, .slice AD n.kids.length cd, .string n.high, .bool n.bnd, .int .i64 n.nx.slot, .int .u64 n.nx.gen], .agg #[.int .i64 nxt.slot, .int .u64 nxt.gen]] w fun e w' =>
    ∃ BK dk BV dv BD dd CK ek CV ev CD ed, e = .returned (.tuple #[.agg #[.bool n.leaf, .slice BK n.keys.length dk, .slice BV n.vals.length dv, .slice BD n.kids.length dd, .string n.high, .bool n.bnd, .int .i64 n.nx.slot, .int .u64 n.nx.gen], .agg #[.bool false, .slice CK 0 ek, .slice CV 0 ev, .slice CD 0 ed, .string ⟨#[]⟩, .bool false, .int .i64 0, .int .u64 0], .string ⟨#[]⟩]) ∧ In w' n BK BV BD ∧ Turn No w w' := by
  refine (split_c n AK AV AD ck cv cd nxt w h).mono ?_
  rintro e w' ⟨l, r, sep, BK, dk, BV, dv, BD, dd, CK, ek, CV, ev, CD, ed, rfl, hs, hg, hg2, _, ht⟩
  obtain ⟨rfl, rfl, rfl⟩ := hs.2 hl
  exact ⟨BK, dk, BV, dv, BD, dd, CK, ek, CV, ev, CD, ed, rfl, in_same h hg, ht⟩
end Go.Proofs.YtfplnobnmgbgoaaDoor
namespace Go.Proofs.YtfplnobnmgbgoaaDoor
open Go.RowKit Go.Lib
set_option linter.unusedVariables false
set_option maxRecDepth 20000
set_option maxRecDepth 20000
set_option linter.unusedSimpArgs false

theorem getL_app (A B : List Pr) (k : ByteArray) : getL (A ++ B) k = (getL A k).or (getL B k) := by
  unfold getL
  rw [List.find?_append]
  cases A.find? (fun p => decide (p.k = k)) <;> rfl
theorem getL_none {A : List Pr} {k : ByteArray} (h : ∀ p ∈ A, p.k ≠ k) : getL A k = none := by
  unfold getL
  rw [List.find?_eq_none.2 fun p hp => by simpa using h p hp]
  rfl
/-- What value answers of a leaf that rises. -/
theorem valT_lf {L : List Pr} {K V : List ByteArray} (h : Lf L K V) (ha : Asc L) (key : ByteArray) : valT K V key = .tuple #[.string ((getL L key).getD ⟨#[]⟩), .bool (getL L key).isSome] := by
  have hk : Rk K := by rw [← h.1]; exact asc_keys.1 ha
  have hg := get_plc (k := key) ha
  rw [h.1, h.2] at hg
  unfold valT
  by_cases hm : inK K key = true
  · have hP : plc K key < V.length := by rw [h.len.2, ← h.len.1]; exact plc_lt hk hm
    rw [if_pos hm] at hg
    rw [if_pos ⟨hm, hP⟩, hg, List.getD_eq_getElem?_getD]
    obtain ⟨v, hv⟩ : ∃ v, V[plc K key]? = some v := ⟨V[plc K key], List.getElem?_eq_getElem hP⟩
    rw [hv]
    rfl
  · rw [if_neg hm] at hg
    rw [if_neg fun h => hm h.1, hg]
    rfl
/-- What value answers of any node: some text, and whether. -/
theorem valT_some (K V : List ByteArray) (key : ByteArray) : ∃ u b, valT K V key = .tuple #[.string u, .bool b] := by
  unfold valT
  split
  · exact ⟨_, _, rfl⟩
  · exact ⟨_, _, rfl⟩
theorem lf_take {L : List Pr} {K V : List ByteArray} (h : Lf L K V) (m : Nat) : Lf (L.take m) (K.take m) (V.take m) := ⟨by rw [List.map_take, h.1], by rw [List.map_take, h.2]⟩
theorem lf_drop {L : List Pr} {K V : List ByteArray} (h : Lf L K V) (m : Nat) : Lf (L.drop m) (K.drop m) (V.drop m) := ⟨by rw [List.map_drop, h.1], by rw [List.map_drop, h.2]⟩
theorem put_len {l : List Pr} (ha : Asc l) (k v : ByteArray) : (putL l k v).length = if (getL l k).isSome = true then l.length else l.length + 1 := by
  have hl : (l.map Pr.v).length = (l.map Pr.k).length := by rw [List.length_map, List.length_map]
  have hk : Rk (l.map Pr.k) := asc_keys.1 ha
  have hz : zipP (l.map Pr.k) (l.map Pr.v) = l := Lf.zip ⟨rfl, rfl⟩
  have hg := get_zip hl hk (key := k)
  rw [hz] at hg
  cases hm : inK (l.map Pr.k) k with
  | true =>
    have h1 := (putL_yes hl hk hm v).1
    rw [hz] at h1
    have h2 := congrArg List.length h1
    rw [List.length_map, List.length_map] at h2
    have hP := plc_lt hk hm
    rw [hm, if_pos rfl, List.getElem?_eq_getElem (by rw [hl]; exact hP)] at hg
    rw [hg, h2]
    rfl
  | false =>
    have h1 := (putL_no hl hk hm v).1
    rw [hz] at h1
    have h2 := congrArg List.length h1
    rw [ins_length _ (plc_le _ _), List.length_map, List.length_map] at h2
    rw [hm, if_neg (by decide)] at hg
    rw [hg, h2]
    rfl
section
variable {leaf : Bool} {K V : List ByteArray} {D : List Hn} {high : ByteArray} {bnd : Bool} {nx : Hn} (h : SplO ⟨leaf, K, V, D, high, bnd, nx⟩) {M : Nat} (hM : K.length / 2 = M) {sep : ByteArray} (hs : K[M]? = some sep)
include h hM hs
omit hs in
theorem spl_m : 1 ≤ M ∧ M < K.length ∧ (leaf = false → M + 1 < K.length) := by
  have h1 := h.2.1
  have h2 := h.2.2
  simp only at h1 h2
  cases leaf with
  | true => have := h1 rfl; exact ⟨by omega, by omega, fun h => by cases h⟩
  | false => have := h2 rfl; exact ⟨by omega, by omega, fun _ => by omega⟩
omit hM in
theorem spl_cov : bnd = true → kl sep high := fun hb => h.1.2.2.1 hb sep (List.mem_of_getElem? hs)
theorem spl_left (nxt : Hn) : spL ⟨leaf, K, V, D, high, bnd, nx⟩ nxt = ⟨leaf, K.take M, if leaf = true then V.take M else [], if leaf = true then [] else D.take (M + 1), sep, true, nxt⟩ ∧ NdRight (spL ⟨leaf, K, V, D, high, bnd, nx⟩ nxt) := by
  obtain ⟨hk, hb, hw, h1, h2⟩ := h.1
  obtain ⟨m1, m2, m3⟩ := spl_m h hM
  obtain ⟨e, ha, hbb⟩ := half_cut hk hs
  have hm : spM ⟨leaf, K, V, D, high, bnd, nx⟩ = M := hM
  have hgd : K.getD M ⟨#[]⟩ = sep := by rw [List.getD_eq_getElem?_getD, hs]; rfl
  cases leaf with
  | true =>
    have e1 : spL ⟨true, K, V, D, high, bnd, nx⟩ nxt = ⟨true, K.take M, V.take M, [], sep, true, nxt⟩ := by
      unfold spL
      rw [if_pos rfl, hm]
      show Nd.mk true (K.take M) (V.take M) [] (K.getD M ⟨#[]⟩) true nxt = _
      rw [hgd]
    refine ⟨e1, ?_⟩
    rw [e1]
    have hv : V.length = K.length := (h1 rfl).1
    exact ⟨(half_rk hk).1, fun h => (by cases h), fun _ => ha, fun _ => ⟨by show (V.take M).length = (K.take M).length; rw [List.length_take, List.length_take, hv], rfl⟩, fun h => (by cases h)⟩
  | false =>
    have e1 : spL ⟨false, K, V, D, high, bnd, nx⟩ nxt = ⟨false, K.take M, [], D.take (M + 1), sep, true, nxt⟩ := by
      unfold spL
      rw [if_neg (fun h => by cases h), hm]
      show Nd.mk false (K.take M) [] (D.take (M + 1)) (K.getD M ⟨#[]⟩) true nxt = _
      rw [hgd]
    refine ⟨e1, ?_⟩
    rw [e1]
    have hd : D.length = K.length + 1 := (h2 rfl).2
    exact ⟨(half_rk hk).1, fun h => (by cases h), fun _ => ha, fun h => (by cases h), fun _ => ⟨rfl, by show (D.take (M + 1)).length = (K.take M).length + 1; rw [List.length_take, List.length_take]; omega⟩⟩
omit hs in
theorem spl_right : spR ⟨leaf, K, V, D, high, bnd, nx⟩ = ⟨leaf, if leaf = true then K.drop M else K.drop (M + 1), if leaf = true then V.drop M else [], if leaf = true then [] else D.drop (M + 1), high, bnd, nx⟩ ∧ NdRight (spR ⟨leaf, K, V, D, high, bnd, nx⟩) := by
  obtain ⟨hk, hb, hw, h1, h2⟩ := h.1
  obtain ⟨m1, m2, m3⟩ := spl_m h hM
  have hm : spM ⟨leaf, K, V, D, high, bnd, nx⟩ = M := hM
  cases leaf with
  | true =>
    have e1 : spR ⟨true, K, V, D, high, bnd, nx⟩ = ⟨true, K.drop M, V.drop M, [], high, bnd, nx⟩ := by
      unfold spR
      rw [if_pos rfl, hm]
    refine ⟨e1, ?_⟩
    rw [e1]
    have hv : V.length = K.length := (h1 rfl).1
    exact ⟨(half_rk hk).2.1, hb, fun hbb k hk => hw hbb k (List.mem_of_mem_drop hk), fun _ => ⟨by show (V.drop M).length = (K.drop M).length; rw [List.length_drop, List.length_drop, hv], rfl⟩, fun h => (by cases h)⟩
  | false =>
    have e1 : spR ⟨false, K, V, D, high, bnd, nx⟩ = ⟨false, K.drop (M + 1), [], D.drop (M + 1), high, bnd, nx⟩ := by
      unfold spR
      rw [if_neg (fun h => by cases h), hm]
    refine ⟨e1, ?_⟩
    rw [e1]
    have hd : D.length = K.length + 1 := (h2 rfl).2
    exact ⟨(half_rk hk).2.2, hb, fun hbb k hk => hw hbb k (List.mem_of_mem_drop hk), fun h => (by cases h), fun _ => ⟨rfl, by show (D.drop (M + 1)).length = (K.drop (M + 1)).length + 1; rw [List.length_drop, List.length_drop]; have := m3 rfl; omega⟩⟩
omit hM in
/-- The halves' values: what the node had. -/
theorem spl_val (hl : leaf = true) (key : ByteArray) : valT K V key = if kl key sep then valT (K.take M) (V.take M) key else valT (K.drop M) (V.drop M) key := by
  subst hl
  obtain ⟨hk, hb, hw, h1, h2⟩ := h.1
  have hv : V.length = K.length := (h1 rfl).1
  obtain ⟨e, ha, hbb⟩ := half_cut hk hs
  have hLf := Lf.of hv
  have hasc := zip_asc hv hk
  have ht : Asc ((zipP K V).take M) := List.Pairwise.sublist (List.take_sublist _ _) hasc
  have hd : Asc ((zipP K V).drop M) := List.Pairwise.sublist (List.drop_sublist _ _) hasc
  have hg : getL (zipP K V) key = (getL ((zipP K V).take M) key).or (getL ((zipP K V).drop M) key) := by
    conv => lhs; rw [← List.take_append_drop M (zipP K V)]
    exact getL_app _ _ _
  rw [valT_lf hLf hasc, valT_lf (lf_take hLf M) ht, valT_lf (lf_drop hLf M) hd, hg]
  have hdk : ∀ p ∈ (zipP K V).drop M, ¬ kl p.k sep := fun p hp hlt => by
    have h3 : p.k ∈ K.drop M := by rw [← (lf_drop hLf M).1]; exact List.mem_map.2 ⟨p, hp, rfl⟩
    rw [List.drop_eq_getElem_cons (List.getElem?_eq_some_iff.1 hs).1] at h3
    rcases List.mem_cons.1 h3 with h4 | h4
    · rw [h4, (List.getElem?_eq_some_iff.1 hs).2] at hlt; exact kl_irrefl _ hlt
    · exact kl_asymm (hbb _ h4) hlt
  have htk : ∀ p ∈ (zipP K V).take M, kl p.k sep := fun p hp => ha _ (by rw [← (lf_take hLf M).1]; exact List.mem_map.2 ⟨p, hp, rfl⟩)
  by_cases hlt : kl key sep
  · rw [if_pos hlt, getL_none (A := (zipP K V).drop M) fun p hp e => hdk p hp (by rw [e]; exact hlt)]
    cases getL ((zipP K V).take M) key <;> rfl
  · rw [if_neg hlt, getL_none (A := (zipP K V).take M) fun p hp e => hlt (by rw [← e]; exact htk p hp)]
    rfl
end
/-- What is known of the halves of a right node. -/
structure SpF (leaf : Bool) (K V : List ByteArray) (D : List Hn) (high : ByteArray) (bnd : Bool) (nx nxt : Hn) (sep : ByteArray) (KL VL : List ByteArray) (DL : List Hn) (KR VR : List ByteArray) (DR : List Hn) : Prop where
  l : NdRight ⟨leaf, KL, VL, DL, sep, true, nxt⟩
  r : NdRight ⟨leaf, KR, VR, DR, high, bnd, nx⟩
  l0 : 0 < KL.length
  r0 : 0 < KR.length
  cov : bnd = true → kl sep high
  fit : Fit sep
  val : leaf = true → ∀ key, valT K V key = if kl key sep then valT KL VL key else valT KR VR key
  kid : leaf = false → ∀ key, (kl key sep → DL[kix KL key]? = D[kix K key]?) ∧ (¬ kl key sep → DR[kix KR key]? = D[kix K key]?)
theorem sub_take {α : Type} {L : List α} {m : Nat} {P : α → Prop} (h : ∀ x ∈ L, P x) : ∀ x ∈ L.take m, P x := fun x hx => h x (List.mem_of_mem_take hx)
theorem sub_drop {α : Type} {L : List α} {m : Nat} {P : α → Prop} (h : ∀ x ∈ L, P x) : ∀ x ∈ L.drop m, P x := fun x hx => h x (List.mem_of_mem_drop hx)
/-- Split of a node that may be split. -/
theorem split_g {leaf : Bool} {K V : List ByteArray} {D : List Hn} {high : ByteArray} {bnd : Bool} {sl ge : Int} {AK AV AD : Option Addr} (ck cv cd : Nat) (nxt : Hn) {w : World} (hin : In w ⟨leaf, K, V, D, high, bnd, ⟨sl, ge⟩⟩ AK AV AD) (hso : SplO ⟨leaf, K, V, D, high, bnd, ⟨sl, ge⟩⟩) :
    Calls Tryd.prog 89 #[.agg #[.bool leaf, .slice AK K.length ck, .slice AV V.length cv, .slice AD D.length cd, .string high, .bool bnd, .int .i64 sl, .int .u64 ge], .agg #[.int .i64 nxt.slot, .int .u64 nxt.gen]] w fun e w' =>
      ∃ sep KL VL DL KR VR DR A1 c1 A2 c2 A3 c3 B1 d1 B2 d2 B3 d3, e = .returned (.tuple #[.agg #[.bool leaf, .slice A1 KL.length c1, .slice A2 VL.length c2, .slice A3 DL.length c3, .string sep, .bool true, .int .i64 nxt.slot, .int .u64 nxt.gen], .agg #[.bool leaf, .slice B1 KR.length d1, .slice B2 VR.length d2, .slice B3 DR.length d3, .string high, .bool bnd, .int .i64 sl, .int .u64 ge], .string sep]) ∧
        SpF leaf K V D high bnd ⟨sl, ge⟩ nxt sep KL VL DL KR VR DR ∧ In w' ⟨leaf, KL, VL, DL, sep, true, nxt⟩ A1 A2 A3 ∧ In w' ⟨leaf, KR, VR, DR, high, bnd, ⟨sl, ge⟩⟩ B1 B2 B3 ∧ Turn No w w' := by
  refine (split_c ⟨leaf, K, V, D, high, bnd, ⟨sl, ge⟩⟩ AK AV AD ck cv cd nxt w hin).mono ?_
  rintro e w' ⟨l, r, sep, A1, c1, A2, c2, A3, c3, B1, d1, B2, d2, B3, d3, rfl, hs, hg, hg2, _, ht⟩
  obtain ⟨hsep, rfl, rfl⟩ := hs.1 hso
  obtain ⟨M, hM⟩ : ∃ M, K.length / 2 = M := ⟨_, rfl⟩
  have hsp : K[M]? = some sep := by rw [← hM]; exact hsep
  clear hsep
  obtain ⟨m1, m2, m3⟩ := spl_m hso hM
  obtain ⟨e1, r1⟩ := spl_left hso hM hsp nxt
  obtain ⟨e2, r2⟩ := spl_right hso hM
  have hfs : Fit sep := hin.fk sep (List.mem_of_getElem? hsp)
  rw [e1] at hg r1 ⊢
  rw [e2] at hg2 r2 ⊢
  have hcov := spl_cov hso hsp
  have hval := fun h => spl_val hso hsp h
  have lk := hin.lk
  have lv := hin.lv
  have ld := hin.ld
  simp only at lk lv ld
  cases leaf with
  | true =>
    simp only [if_true] at hg hg2 r1 r2 ⊢
    refine ⟨sep, _, _, _, _, _, _, A1, c1, A2, c2, A3, c3, B1, d1, B2, d2, B3, d3, rfl, ⟨r1, r2, ?_, ?_, hcov, hfs, hval, fun h => by cases h⟩, ⟨hg.k, hg.v, hg.d, sub_take hin.fk, sub_take hin.fv, hfs, ?_, ?_, Nat.zero_le _⟩, ⟨hg2.k, hg2.v, hg2.d, sub_drop hin.fk, sub_drop hin.fv, hin.fh, ?_, ?_, Nat.zero_le _⟩, ht⟩
    all_goals (simp only [List.length_take, List.length_drop]; omega)
  | false =>
    simp only [Bool.false_eq_true, if_false] at hg hg2 r1 r2 ⊢
    refine ⟨sep, _, _, _, _, _, _, A1, c1, A2, c2, A3, c3, B1, d1, B2, d2, B3, d3, rfl, ⟨r1, r2, ?_, ?_, hcov, hfs, (fun h => by cases h), fun _ key => half_kid (K := K) (m := M) (sep := sep) (L := D) hso.1.1 hsp key⟩, ⟨hg.k, hg.v, hg.d, sub_take hin.fk, (fun k hk => by cases hk), hfs, ?_, Nat.zero_le _, ?_⟩, ⟨hg2.k, hg2.v, hg2.d, sub_drop hin.fk, (fun k hk => by cases hk), hin.fh, ?_, Nat.zero_le _, ?_⟩, ht⟩
    all_goals (have := m3 rfl; simp only [List.length_take, List.length_drop]; omega)
end Go.Proofs.YtfplnobnmgbgoaaDoor
