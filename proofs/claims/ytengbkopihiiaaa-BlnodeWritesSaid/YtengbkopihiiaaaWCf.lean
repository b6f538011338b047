/-
  Put.
-/
import Derived.Test.YtengbkopihiiaaaCl
namespace Go.Proofs.Ytengbkopihiiaaa
open Go.RowKit Go.Lib
set_option linter.unusedVariables false
set_option maxRecDepth 20000
set_option linter.unusedSimpArgs false

structure Fits (w : World) (leaf : Bool) (K V : List ByteArray) (D : List Hn) (high : ByteArray) (AK AV AD : Option Addr) : Prop where
  k : Row w AK (kcs K)
  v : Row w AV (kcs V)
  d : Row w AD (hcs D)
  fk : ∀ k ∈ K, Fit k
  fv : ∀ k ∈ V, Fit k
  fh : Fit high
  lk : K.length ≤ 10000
  lv : V.length ≤ 10000
  ld : D.length ≤ 10000
theorem Fits.no {w w2 : World} {leaf : Bool} {K V : List ByteArray} {D : List Hn} {high : ByteArray} {AK AV AD : Option Addr} (h : Fits w leaf K V D high AK AV AD) (t : Turn No w w2) : Fits w2 leaf K V D high AK AV AD :=
  ⟨h.k.no t, h.v.no t, h.d.no t, h.fk, h.fv, h.fh, h.lk, h.lv, h.ld⟩
theorem th8 {w : World} {g : Nat} {c : Array Value} {t : TypeId} (h : At w g (.cells c t (0, 0))) : w.frozen? ⟨g, 0, none⟩ = false ∧ w.frozen? ⟨g, 1, none⟩ = false ∧ w.frozen? ⟨g, 2, none⟩ = false ∧ w.frozen? ⟨g, 3, none⟩ = false ∧ w.frozen? ⟨g, 4, none⟩ = false ∧ w.frozen? ⟨g, 5, none⟩ = false ∧ w.frozen? ⟨g, 6, none⟩ = false ∧ w.frozen? ⟨g, 7, none⟩ = false :=
  ⟨h.thawed 0, h.thawed 1, h.thawed 2, h.thawed 3, h.thawed 4, h.thawed 5, h.thawed 6, h.thawed 7⟩
/-- What Put and Delete answer. -/
def PutRes (n : Nd) (R : Nd → ByteArray → Bool → Prop) (w : World) (e : Ending) (w' : World) : Prop :=
  ∃ m BK dk BV dv BD dd old had, e = .returned (.tuple #[.agg #[.bool m.leaf, .slice BK m.keys.length dk, .slice BV m.vals.length dv, .slice BD m.kids.length dd, .string m.high, .bool m.bnd, .int .i64 m.nx.slot, .int .u64 m.nx.gen], .string old, .bool had]) ∧ R m old had ∧ Got w.heap.size w' m BK BV BD ∧ Turn No w w'
theorem PutRes.of {n : Nd} {R : Nd → ByteArray → Bool → Prop} {w : World} {e : Ending} {w' : World} (m : Nd) {BK BV BD : Option Addr} {dk dv dd : Nat} (old : ByteArray) (had : Bool) (h1 : e = .returned (.tuple #[.agg #[.bool m.leaf, .slice BK m.keys.length dk, .slice BV m.vals.length dv, .slice BD m.kids.length dd, .string m.high, .bool m.bnd, .int .i64 m.nx.slot, .int .u64 m.nx.gen], .string old, .bool had])) (h2 : R m old had) (h3 : Got w.heap.size w' m BK BV BD) (h4 : Turn No w w') : PutRes n R w e w' :=
  ⟨m, BK, dk, BV, dv, BD, dd, old, had, h1, h2, h3, h4⟩
set_option maxRecDepth 100000 in
set_option maxHeartbeats 16000000 in
theorem putN (leaf : Bool) (K V : List ByteArray) (D : List Hn) (high : ByteArray) (bnd : Bool) (sl ge : Int) (AK AV AD : Option Addr) (ck cv cd : Nat) (key val : ByteArray) (w : World) (hin : Fits w leaf K V D high AK AV AD) (hk : Fit key) (hv : Fit val) :
    Calls Try.prog 12 #[.agg #[.bool leaf, .slice AK K.length ck, .slice AV V.length cv, .slice AD D.length cd, .string high, .bool bnd, .int .i64 sl, .int .u64 ge], .string key, .string val] w fun e w' => PutRes ⟨leaf, K, V, D, high, bnd, ⟨sl, ge⟩⟩ (PutR ⟨leaf, K, V, D, high, bnd, ⟨sl, ge⟩⟩ key val) w e w' := by
  have CS := Lib.hid fun (W : World) => clone_any key hk W
  have CS2 := Lib.hid fun (W : World) => clone_any val hv W
  clear hk hv
  have t1 : Turn No w (w.alloc (.cells #[.bool leaf, .slice AK K.length ck, .slice AV V.length cv, .slice AD D.length cd, .string high, .bool bnd, .int .i64 sl, .int .u64 ge] 29)) := (Turn.refl _ _).alloc _
  have t2 : Turn No (w.alloc (.cells #[.bool leaf, .slice AK K.length ck, .slice AV V.length cv, .slice AD D.length cd, .string high, .bool bnd, .int .i64 sl, .int .u64 ge] 29)) ((w.alloc (.cells #[.bool leaf, .slice AK K.length ck, .slice AV V.length cv, .slice AD D.length cd, .string high, .bool bnd, .int .i64 sl, .int .u64 ge] 29)).alloc (.cells #[.bool false, .slice none 0 0, .slice none 0 0, .slice none 0 0, .string ⟨#[]⟩, .bool false, .int .i64 0, .int .u64 0] 29)) := (Turn.refl _ _).alloc _
  have a1 := (At.new w (.cells #[.bool leaf, .slice AK K.length ck, .slice AV V.length cv, .slice AD D.length cd, .string high, .bool bnd, .int .i64 sl, .int .u64 ge] 29)).no t2
  have a2 := At.new (w.alloc (.cells #[.bool leaf, .slice AK K.length ck, .slice AV V.length cv, .slice AD D.length cd, .string high, .bool bnd, .int .i64 sl, .int .u64 ge] 29)) (.cells #[.bool false, .slice none 0 0, .slice none 0 0, .slice none 0 0, .string ⟨#[]⟩, .bool false, .int .i64 0, .int .u64 0] 29)
  rw [World.size_alloc] at a2
  have HB : Hid (Turn No w ((w.alloc (.cells #[.bool leaf, .slice AK K.length ck, .slice AV V.length cv, .slice AD D.length cd, .string high, .bool bnd, .int .i64 sl, .int .u64 ge] 29)).alloc (.cells #[.bool false, .slice none 0 0, .slice none 0 0, .slice none 0 0, .string ⟨#[]⟩, .bool false, .int .i64 0, .int .u64 0] 29)) ∧ At ((w.alloc (.cells #[.bool leaf, .slice AK K.length ck, .slice AV V.length cv, .slice AD D.length cd, .string high, .bool bnd, .int .i64 sl, .int .u64 ge] 29)).alloc (.cells #[.bool false, .slice none 0 0, .slice none 0 0, .slice none 0 0, .string ⟨#[]⟩, .bool false, .int .i64 0, .int .u64 0] 29)) w.heap.size (.cells #[.bool leaf, .slice AK K.length ck, .slice AV V.length cv, .slice AD D.length cd, .string high, .bool bnd, .int .i64 sl, .int .u64 ge] 29 (0, 0)) ∧ At ((w.alloc (.cells #[.bool leaf, .slice AK K.length ck, .slice AV V.length cv, .slice AD D.length cd, .string high, .bool bnd, .int .i64 sl, .int .u64 ge] 29)).alloc (.cells #[.bool false, .slice none 0 0, .slice none 0 0, .slice none 0 0, .string ⟨#[]⟩, .bool false, .int .i64 0, .int .u64 0] 29)) (w.heap.size + 1) (.cells #[.bool false, .slice none 0 0, .slice none 0 0, .slice none 0 0, .string ⟨#[]⟩, .bool false, .int .i64 0, .int .u64 0] 29 (0, 0)) ∧ ((w.alloc (.cells #[.bool leaf, .slice AK K.length ck, .slice AV V.length cv, .slice AD D.length cd, .string high, .bool bnd, .int .i64 sl, .int .u64 ge] 29)).alloc (.cells #[.bool false, .slice none 0 0, .slice none 0 0, .slice none 0 0, .string ⟨#[]⟩, .bool false, .int .i64 0, .int .u64 0] 29)).heap.size = w.heap.size + 2) := Lib.hid ⟨t1.trans t2, a1, a2, by simp⟩
  clear t1 t2 a1 a2
  have HR := Lib.hid hin
  have CN := Lib.hid fun (W : World) (t : Turn No w W) => cloneN leaf K V D high bnd sl ge AK AV AD ck cv cd W (HR.out.k.no t) (HR.out.v.no t) (HR.out.d.no t) hin.fk hin.fv hin.fh (by have := hin.lk; omega) (by have := hin.lv; omega) (by have := hin.ld; omega)
  have CT := Lib.hid fun (W : World) (t : Turn No w W) => takesP leaf K V D high bnd sl ge AK AV AD ck cv cd key W (HR.out.k.no t) (by have := hin.lk; omega)
  have CF := Lib.hid fun (W : World) (t : Turn No w W) => findP leaf K V D high bnd sl ge AK AV AD ck cv cd key W (HR.out.k.no t) (by have := hin.lk; omega)
  have hPle := plc_le K key
  have HPL := Lib.hid (And.intro hPle hin.lk)
  have HRK := Lib.hid fun (h : Rk K) (hm : inK K key = true) => plc_lt h hm
  obtain ⟨P, hP⟩ : ∃ x, plc K key = x := ⟨_, rfl⟩
  obtain ⟨Q, hQ⟩ : ∃ x, inK K key = x := ⟨_, rfl⟩
  rw [hP, hQ] at CF
  rw [hP] at HPL HRK
  rw [hQ] at HRK
  have HPQ := Lib.hid (And.intro hP hQ)
  clear hP hQ hin hPle
  go_enter Try.func12, Try.ntmps12
  go_upto_region 1 with fail
  obtain ⟨w1, hw1⟩ : ∃ x, ((w.alloc (.cells #[.bool leaf, .slice AK K.length ck, .slice AV V.length cv, .slice AD D.length cd, .string high, .bool bnd, .int .i64 sl, .int .u64 ge] 29)).alloc (.cells #[.bool false, .slice none 0 0, .slice none 0 0, .slice none 0 0, .string ⟨#[]⟩, .bool false, .int .i64 0, .int .u64 0] 29)) = x := ⟨_, rfl⟩
  rw [hw1] at HB
  rw [hw1]
  obtain ⟨g, hg⟩ : ∃ x, w.heap.size = x := ⟨_, rfl⟩
  rw [hg] at HB
  rw [hg]
  have HG := Lib.hid hg
  clear hg hw1
  obtain ⟨c0, c1, c2, c3, c4, c5, c6, c7⟩ := at8 HB.out.2.1
  go_upto_region 2 with (go_at_call 38; (with_reducible refine (CN.out _ HB.out.1).mono ?_); rintro e w2 ⟨B1, d1, B2, d2, B3, d3, rfl, ho, hd, ht⟩; have H2 := Lib.hid (And.intro ho (And.intro hd ht)); clear ho hd ht c0 c1 c2 c3 c4 c5 c6 c7; obtain ⟨e0, e1, e2, e3, e4, e5, e6, e7⟩ := at8 (HB.out.2.2.1.no H2.out.2.2); obtain ⟨z0, z1, z2, z3, z4, z5, z6, z7⟩ := th8 (HB.out.2.2.1.no H2.out.2.2))
  have H3 : Hid (Cl w ((((((((w2.setCell ⟨g + 1, 0, none⟩ (.bool leaf)).setCell ⟨g + 1, 1, none⟩ (.slice B1 K.length d1)).setCell ⟨g + 1, 2, none⟩ (.slice B2 V.length d2)).setCell ⟨g + 1, 3, none⟩ (.slice B3 D.length d3)).setCell ⟨g + 1, 4, none⟩ (.string high)).setCell ⟨g + 1, 5, none⟩ (.bool bnd)).setCell ⟨g + 1, 6, none⟩ (.int .i64 sl)).setCell ⟨g + 1, 7, none⟩ (.int .u64 ge)) g (g + 1) #[.bool leaf, .slice AK K.length ck, .slice AV V.length cv, .slice AD D.length cd, .string high, .bool bnd, .int .i64 sl, .int .u64 ge] (g + 2) leaf K V D high bnd sl ge B1 d1 B2 d2 B3 d3) := Lib.hid (by
    have tw := turn8 w2 (g + 1) (.bool leaf) (.slice B1 K.length d1) (.slice B2 V.length d2) (.slice B3 D.length d3) (.string high) (.bool bnd) (.int .i64 sl) (.int .u64 ge)
    have hs := HB.out.2.2.2
    have hgg := HG.out
    have sz := H2.out.2.2.size
    refine ⟨(HB.out.1.trans H2.out.2.2).then tw fun i hi e => by omega, (HB.out.2.1.no H2.out.2.2).turn tw (by omega), put8 (HB.out.2.2.1.no H2.out.2.2) _ _ _ _ _ _ _ _, (H2.out.1.from (by omega)).wr (HB.out.2.2.1.no H2.out.2.2) tw, H2.out.2.1, by omega, by omega, by omega, ?_⟩
    have := tw.size
    omega)
  clear e0 e1 e2 e3 e4 e5 e6 e7 z0 z1 z2 z3 z4 z5 z6 z7 H2 HB CN
  generalize ((((((((w2.setCell ⟨g + 1, 0, none⟩ (.bool leaf)).setCell ⟨g + 1, 1, none⟩ (.slice B1 K.length d1)).setCell ⟨g + 1, 2, none⟩ (.slice B2 V.length d2)).setCell ⟨g + 1, 3, none⟩ (.slice B3 D.length d3)).setCell ⟨g + 1, 4, none⟩ (.string high)).setCell ⟨g + 1, 5, none⟩ (.bool bnd)).setCell ⟨g + 1, 6, none⟩ (.int .i64 sl)).setCell ⟨g + 1, 7, none⟩ (.int .u64 ge)) = w3 at H3 ⊢
  cases leaf with
  | false =>
    have HNO : Hid (¬ LeafR ⟨false, K, V, D, high, bnd, ⟨sl, ge⟩⟩ key) := Lib.hid fun h => by cases h.2.1
    obtain ⟨c0, c1, c2, c3, c4, c5, c6, c7⟩ := at8 H3.out.a
    go_upto_region 3 with fail
    obtain ⟨e0, e1, e2, e3, e4, e5, e6, e7⟩ := at8 H3.out.b
    obtain ⟨z0, z1, z2, z3, z4, z5, z6, z7⟩ := th8 H3.out.b
    have HZ := Lib.hid H3.out.again
    go_wp2_with fail
    generalize ((((((((w3.setCell ⟨g + 1, 0, none⟩ (.bool false)).setCell ⟨g + 1, 1, none⟩ (.slice B1 K.length d1)).setCell ⟨g + 1, 2, none⟩ (.slice B2 V.length d2)).setCell ⟨g + 1, 3, none⟩ (.slice B3 D.length d3)).setCell ⟨g + 1, 4, none⟩ (.string high)).setCell ⟨g + 1, 5, none⟩ (.bool bnd)).setCell ⟨g + 1, 6, none⟩ (.int .i64 sl)).setCell ⟨g + 1, 7, none⟩ (.int .u64 ge)) = w9 at HZ ⊢
    (try simp only [Exit.inBlock, Exit.then])
    refine bodyPost_ret (results_cell12 rfl _ _ (g + 1) 29 _ (0, 0) _ (by rfl) HZ.out.b Try.underlying29 (by kernel_rfl)) rfl ?_
    exact PutRes.of ⟨false, K, V, D, high, bnd, ⟨sl, ge⟩⟩ ⟨#[]⟩ false rfl ⟨fun h => absurd h HNO.out, fun _ => ⟨rfl, rfl, rfl⟩⟩ HZ.out.got HZ.out.tu
  | true =>
    obtain ⟨c0, c1, c2, c3, c4, c5, c6, c7⟩ := at8 H3.out.a
    go_upto_if 20 with (go_at_call 39; (with_reducible refine (CT.out _ H3.out.tu).mono ?_); rintro e w4 ⟨(_ | _), rfl, hb, ht⟩ <;> have H4 := Lib.hid (And.intro hb (H3.out.no ht)) <;> clear hb ht c0 c1 c2 c3 c4 c5 c6 c7)
    · have HNO : Hid (¬ LeafR ⟨true, K, V, D, high, bnd, ⟨sl, ge⟩⟩ key) := Lib.hid fun h => by have := H4.out.1.2 ⟨h.1, h.2.2⟩; cases this
      have H5 := Lib.hid H4.out.2
      go_upto_region 3 with fail
      obtain ⟨e0, e1, e2, e3, e4, e5, e6, e7⟩ := at8 H5.out.b
      obtain ⟨z0, z1, z2, z3, z4, z5, z6, z7⟩ := th8 H5.out.b
      have HZ := Lib.hid H5.out.again
      go_wp2_with fail
      generalize ((((((((w4.setCell ⟨g + 1, 0, none⟩ (.bool true)).setCell ⟨g + 1, 1, none⟩ (.slice B1 K.length d1)).setCell ⟨g + 1, 2, none⟩ (.slice B2 V.length d2)).setCell ⟨g + 1, 3, none⟩ (.slice B3 D.length d3)).setCell ⟨g + 1, 4, none⟩ (.string high)).setCell ⟨g + 1, 5, none⟩ (.bool bnd)).setCell ⟨g + 1, 6, none⟩ (.int .i64 sl)).setCell ⟨g + 1, 7, none⟩ (.int .u64 ge)) = w9 at HZ ⊢
      (try simp only [Exit.inBlock, Exit.then])
      refine bodyPost_ret (results_cell12 rfl _ _ (g + 1) 29 _ (0, 0) _ (by rfl) HZ.out.b Try.underlying29 (by kernel_rfl)) rfl ?_
      exact PutRes.of ⟨true, K, V, D, high, bnd, ⟨sl, ge⟩⟩ ⟨#[]⟩ false rfl ⟨fun h => absurd h HNO.out, fun _ => ⟨rfl, rfl, rfl⟩⟩ HZ.out.got HZ.out.tu
    · have HYE : Hid (LeafR ⟨true, K, V, D, high, bnd, ⟨sl, ge⟩⟩ key) := Lib.hid (by
        have h : RightP true K V.length D.length high bnd ∧ (bnd = true → kl key high) := by first | exact H4.out.1.1 rfl | exact H4.out.1.1 trivial
        exact ⟨h.1, rfl, h.2⟩)
      have H5 := Lib.hid H4.out.2
      clear H4 H3 CT
      go_upto_region 4 with fail
      go_upto_region 5 with (first | (go_at_call 40; (with_reducible refine (CS.out _).mono ?_); rintro e w5 ⟨rfl, ht⟩; have H6 := Lib.hid (H5.out.no ht); clear ht) | (go_at_call 40; (with_reducible refine (CS2.out _).mono ?_); rintro e w6 ⟨rfl, ht⟩; have H7 := Lib.hid (H6.out.no ht); clear ht))
      clear CS CS2
      have HVL : Hid (V.length = K.length ∧ Rk K) := Lib.hid ⟨(HYE.out.1.2.2.2.1 rfl).1, HYE.out.1.1⟩
      obtain ⟨c0, c1, c2, c3, c4, c5, c6, c7⟩ := at8 H7.out.a
      go_upto_region 6 with (go_at_call 11; (with_reducible refine (CF.out _ H7.out.tu).mono ?_); rintro e w7 ⟨rfl, ht⟩; have H8 := Lib.hid (H7.out.no ht); clear ht c0 c1 c2 c3 c4 c5 c6 c7)
      clear H7 H6 H5 CF
      cases Q with
      | true =>
        have hlt : P < V.length := by rw [HVL.out.1]; exact HRK.out HVL.out.2 rfl
        obtain ⟨v0, hv0⟩ : ∃ v0, V[P]? = some v0 := ⟨V[P], List.getElem?_eq_getElem hlt⟩
        obtain ⟨g2, rfl, hz2, hl2, cur, hat⟩ := own_some H8.out.own.v (by omega)
        have x0 := own_cell H8.out.own.v hv0 w7 (Turn.refl _ _)
        have y0 := hat.thawed P
        have e2 := H8.out.b.cell 2
        simp at e2
        obtain ⟨V1, hV1⟩ : ∃ x, V.set P val = x := ⟨_, rfl⟩
        have H9 := Lib.hid (H8.out.putV P val hV1)
        have HV0 := Lib.hid (And.intro hv0 hV1)
        have hq1 : (0 : Int) ≤ (P : Int) := by omega
        have hq2 : (P : Int) < (V.length : Int) := by omega
        clear hat hz2 hl2 hv0 hV1 hlt
        go_upto_region 7 with fail
        go_region
        all_goals
          generalize w7.setCell ⟨g2, P, none⟩ (.string val) = w8 at H9 ⊢
          clear x0 y0 e2
          go_upto_region 8 with fail
          obtain ⟨e0, e1, e2, e3, e4, e5, e6, e7⟩ := at8 H9.out.b
          obtain ⟨z0, z1, z2, z3, z4, z5, z6, z7⟩ := th8 H9.out.b
          have HZ := Lib.hid H9.out.again
          go_wp2_with fail
          generalize ((((((((w8.setCell ⟨g + 1, 0, none⟩ (.bool true)).setCell ⟨g + 1, 1, none⟩ (.slice B1 K.length d1)).setCell ⟨g + 1, 2, none⟩ (.slice (some ⟨g2, 0, none⟩) V1.length d2)).setCell ⟨g + 1, 3, none⟩ (.slice B3 D.length d3)).setCell ⟨g + 1, 4, none⟩ (.string high)).setCell ⟨g + 1, 5, none⟩ (.bool bnd)).setCell ⟨g + 1, 6, none⟩ (.int .i64 sl)).setCell ⟨g + 1, 7, none⟩ (.int .u64 ge)) = w9 at HZ ⊢
          (try simp only [Exit.inBlock, Exit.then])
          refine bodyPost_ret (results_cell12 rfl _ _ (g + 1) 29 _ (0, 0) _ (by rfl) HZ.out.b Try.underlying29 (by kernel_rfl)) rfl ?_
          refine PutRes.of ⟨true, K, V1, D, high, bnd, ⟨sl, ge⟩⟩ v0 true rfl ⟨fun _ => ?_, fun h => absurd HYE.out h⟩ (HZ.out.no (Turn.refl No w9).drew).got (HZ.out.no (Turn.refl No w9).drew).tu
          obtain ⟨p1, p2⟩ := putL_yes HVL.out.1 HVL.out.2 HPQ.out.2 val
          have p3 := get_zip HVL.out.1 HVL.out.2 (key := key)
          rw [HPQ.out.2, if_pos rfl, HPQ.out.1, HV0.out.1] at p3
          rw [HPQ.out.1, HV0.out.2] at p2
          show _ = Nd.mk true _ _ D high bnd ⟨sl, ge⟩ ∧ _
          rw [p1, p2, p3]
          exact ⟨rfl, rfl, rfl⟩
      | false =>
        obtain ⟨K1, hK1⟩ : ∃ x, ins K P key = x := ⟨_, rfl⟩
        obtain ⟨V1, hV1⟩ : ∃ x, ins V P val = x := ⟨_, rfl⟩
        have hKl : K1.length = K.length + 1 := by rw [← hK1]; exact ins_length K HPL.out.1 key
        have hVl : V1.length = V.length + 1 := by rw [← hV1]; exact ins_length V (by rw [HVL.out.1]; exact HPL.out.1) val
        have HKV := Lib.hid (And.intro hK1 (And.intro hV1 (And.intro hKl hVl)))
        have tn : Turn No w7 (w7.alloc (.cells #[.string key] 9)) := (Turn.refl _ _).alloc _
        have HA := Lib.hid (H8.out.no tn)
        have ci := insK K HPL.out.1 HA.out.own.k (by have := HPL.out.2; omega) w7.heap.size key (At.new _ _) (fun h => by have := (blk_lt H8.out.own.k h).2; omega) HA.out.zx
        rw [hK1, ← hKl] at ci
        have CI := Lib.hid ci
        have e1 := H8.out.b.cell 1
        simp at e1
        clear tn ci hK1 hV1 hKl hVl
        go_upto_region 9 with fail
        go_upto_region 10 with (go_at_call 41; (with_reducible refine CI.out.mono ?_); rintro e w8 ⟨B4, d4, rfl, ho, ht, hB⟩; have H9 := Lib.hid (HA.out.setK ho ht (fun i hi => by injection hi with hi; subst hi; exact hB)); obtain ⟨y1, z1⟩ := And.intro ((HA.out.stK ht).cell 1) ((HA.out.stK ht).thawed 1); simp at y1; clear ho ht hB)
        clear e1 y1 z1 CI HA H8
        generalize w8.setCell ⟨g + 1, 1, none⟩ (.slice (some ⟨B4, 0, none⟩) K1.length d4) = w9 at H9 ⊢
        have tn : Turn No w9 (w9.alloc (.cells #[.string val] 9)) := (Turn.refl _ _).alloc _
        have HA := Lib.hid (H9.out.no tn)
        have ci := insK V (i := P) (by rw [HVL.out.1]; exact HPL.out.1) HA.out.own.v (by have := HPL.out.2; have := HVL.out.1; omega) w9.heap.size val (At.new _ _) (fun h => by have := (blk_lt H9.out.own.v h).2; omega) HA.out.zx
        rw [HKV.out.2.1, ← HKV.out.2.2.2] at ci
        have CI := Lib.hid ci
        have e2 := H9.out.b.cell 2
        simp at e2
        clear tn ci
        go_upto_region 11 with (go_at_call 41; (with_reducible refine CI.out.mono ?_); rintro e w10 ⟨B5, d5, rfl, ho, ht, hB⟩; have H10 := Lib.hid (HA.out.setV ho ht (fun i hi => by injection hi with hi; subst hi; exact hB)); obtain ⟨y1, z1⟩ := And.intro ((HA.out.stV ht).cell 2) ((HA.out.stV ht).thawed 2); simp at y1; clear ho ht hB)
        clear e2 y1 z1 CI HA H9
        generalize w10.setCell ⟨g + 1, 2, none⟩ (.slice (some ⟨B5, 0, none⟩) V1.length d5) = w11 at H10 ⊢
        obtain ⟨e0, e1, e2, e3, e4, e5, e6, e7⟩ := at8 H10.out.b
        obtain ⟨z0, z1, z2, z3, z4, z5, z6, z7⟩ := th8 H10.out.b
        have HZ := Lib.hid H10.out.again
        go_wp2_with fail
        generalize ((((((((w11.setCell ⟨g + 1, 0, none⟩ (.bool true)).setCell ⟨g + 1, 1, none⟩ (.slice (some ⟨B4, 0, none⟩) K1.length d4)).setCell ⟨g + 1, 2, none⟩ (.slice (some ⟨B5, 0, none⟩) V1.length d5)).setCell ⟨g + 1, 3, none⟩ (.slice B3 D.length d3)).setCell ⟨g + 1, 4, none⟩ (.string high)).setCell ⟨g + 1, 5, none⟩ (.bool bnd)).setCell ⟨g + 1, 6, none⟩ (.int .i64 sl)).setCell ⟨g + 1, 7, none⟩ (.int .u64 ge)) = w12 at HZ ⊢
        (try simp only [Exit.inBlock, Exit.then])
        refine bodyPost_ret (results_cell12 rfl _ _ (g + 1) 29 _ (0, 0) _ (by rfl) HZ.out.b Try.underlying29 (by kernel_rfl)) rfl ?_
        refine PutRes.of ⟨true, K1, V1, D, high, bnd, ⟨sl, ge⟩⟩ ⟨#[]⟩ false rfl ⟨fun _ => ?_, fun h => absurd HYE.out h⟩ HZ.out.got HZ.out.tu
        obtain ⟨p1, p2⟩ := putL_no HVL.out.1 HVL.out.2 HPQ.out.2 val
        have p3 := get_zip HVL.out.1 HVL.out.2 (key := key)
        rw [HPQ.out.2, if_neg (by decide)] at p3
        rw [HPQ.out.1, HKV.out.1] at p1
        rw [HPQ.out.1, HKV.out.2.1] at p2
        show _ = Nd.mk true _ _ D high bnd ⟨sl, ge⟩ ∧ _
        rw [p1, p2, p3]
        exact ⟨rfl, rfl, rfl⟩
end Go.Proofs.Ytengbkopihiiaaa
