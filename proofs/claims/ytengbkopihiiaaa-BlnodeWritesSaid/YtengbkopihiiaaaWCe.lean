/-
  clone: a node of its own.
-/
import Derived.Test.YtengbkopihiiaaaWCd
namespace Go.Proofs.Ytengbkopihiiaaa
open Go.RowKit Go.Lib
set_option linter.unusedVariables false
set_option maxRecDepth 20000
set_option linter.unusedSimpArgs false

theorem own_old {w : World} {Z Z' n c : Nat} {t s : Nat} {A B : Option Addr} {n' c' : Nat} {xs ys : List Value} {w' : World} (h : w.ownsRow Z t s (.slice A n c) n xs) (h' : w'.ownsRow Z' t s (.slice B n' c') n' ys) (hz : w.heap.size ≤ Z') : ∀ i, ablk A = some i → ¬ ablk B = some i := fun i h1 h2 => by
  obtain ⟨_, cur, hat⟩ := own_at h h1
  have := hat.lt
  have := (own_at h' h2).1
  omega
def CloneRes (leaf : Bool) (K V : List ByteArray) (D : List Hn) (high : ByteArray) (bnd : Bool) (slot gen : Int) (w : World) (e : Ending) (w' : World) : Prop :=
  ∃ AK ck AV cv AD cd, e = .returned (.agg #[.bool leaf, .slice AK K.length ck, .slice AV V.length cv, .slice AD D.length cd, .string high, .bool bnd, .int .i64 slot, .int .u64 gen]) ∧ Own w.heap.size w' K V D AK ck AV cv AD cd ∧ (∀ i, ablk AK = some i → ¬ ablk AV = some i) ∧ Turn No w w'
theorem put8 {w : World} {g : Nat} {x0 x1 x2 x3 x4 x5 x6 x7 : Value} (h : At w g (.cells #[x0, x1, x2, x3, x4, x5, x6, x7] 29 (0, 0))) (y0 y1 y2 y3 y4 y5 y6 y7 : Value) : At ((((((((w.setCell ⟨g, 0, none⟩ y0).setCell ⟨g, 1, none⟩ y1).setCell ⟨g, 2, none⟩ y2).setCell ⟨g, 3, none⟩ y3).setCell ⟨g, 4, none⟩ y4).setCell ⟨g, 5, none⟩ y5).setCell ⟨g, 6, none⟩ y6).setCell ⟨g, 7, none⟩ y7) g (.cells #[y0, y1, y2, y3, y4, y5, y6, y7] 29 (0, 0)) := by simpa using (((((((h.set 0 y0).set 1 y1).set 2 y2).set 3 y3).set 4 y4).set 5 y5).set 6 y6).set 7 y7
theorem turn8 (w : World) (g : Nat) (y0 y1 y2 y3 y4 y5 y6 y7 : Value) : Turn (fun k => k = g) w ((((((((w.setCell ⟨g, 0, none⟩ y0).setCell ⟨g, 1, none⟩ y1).setCell ⟨g, 2, none⟩ y2).setCell ⟨g, 3, none⟩ y3).setCell ⟨g, 4, none⟩ y4).setCell ⟨g, 5, none⟩ y5).setCell ⟨g, 6, none⟩ y6).setCell ⟨g, 7, none⟩ y7) := (((((((((Turn.refl (fun k => k = g) w).trans (Turn.set1 _ g 0 y0)).trans (Turn.set1 _ g 1 y1)).trans (Turn.set1 _ g 2 y2)).trans (Turn.set1 _ g 3 y3)).trans (Turn.set1 _ g 4 y4)).trans (Turn.set1 _ g 5 y5)).trans (Turn.set1 _ g 6 y6)).trans (Turn.set1 _ g 7 y7))
theorem own_past {w w' : World} {Z n c : Nat} {t s : Nat} {A : Option Addr} {xs : List Value} {X : Nat → Prop} (h : w.ownsRow Z t s (.slice A n c) n xs) (tu : Turn X w w') (hX : ∀ i, X i → i < Z) : w'.ownsRow Z t s (.slice A n c) n xs := own_grown h tu fun k hk hx => by
  rw [own_ablk] at hk
  have := (own_at h hk).1
  have := hX k hx
  omega
/-- Turned below Z alone: rows that lie from Z on stay. -/
theorem Own.past {w w' : World} {Z : Nat} {K V : List ByteArray} {D : List Hn} {B1 B2 B3 : Option Addr} {d1 d2 d3 : Nat} {X : Nat → Prop} (h : Own Z w K V D B1 d1 B2 d2 B3 d3) (tu : Turn X w w') (hX : ∀ i, X i → i < Z) : Own Z w' K V D B1 d1 B2 d2 B3 d3 :=
  ⟨own_past h.k tu hX, own_past h.v tu hX, own_past h.d tu hX⟩
theorem Own.no {w w' : World} {Z : Nat} {K V : List ByteArray} {D : List Hn} {B1 B2 B3 : Option Addr} {d1 d2 d3 : Nat} (h : Own Z w K V D B1 d1 B2 d2 B3 d3) (tu : Turn No w w') : Own Z w' K V D B1 d1 B2 d2 B3 d3 :=
  h.past tu fun _ h => h.elim
theorem Own.from {w : World} {Z Z' : Nat} {K V : List ByteArray} {D : List Hn} {B1 B2 B3 : Option Addr} {d1 d2 d3 : Nat} (h : Own Z w K V D B1 d1 B2 d2 B3 d3) (hz : Z' ≤ Z) : Own Z' w K V D B1 d1 B2 d2 B3 d3 :=
  ⟨own_from h.k hz, own_from h.v hz, own_from h.d hz⟩
set_option maxRecDepth 100000 in
set_option maxHeartbeats 8000000 in
theorem cloneN (leaf : Bool) (K V : List ByteArray) (D : List Hn) (high : ByteArray) (bnd : Bool) (sl ge : Int) (AK AV AD : Option Addr) (ck cv cd : Nat) (w : World) (hK : Row w AK (kcs K)) (hV : Row w AV (kcs V)) (hD : Row w AD (hcs D)) (f1 : ∀ k ∈ K, Fit k) (f2 : ∀ k ∈ V, Fit k) (f3 : Fit high) (n1 : K.length ≤ 100000) (n2 : V.length ≤ 100000) (n3 : D.length ≤ 100000) :
    Calls Try.prog 38 #[.agg #[.bool leaf, .slice AK K.length ck, .slice AV V.length cv, .slice AD D.length cd, .string high, .bool bnd, .int .i64 sl, .int .u64 ge]] w fun e w' => CloneRes leaf K V D high bnd sl ge w e w' := by
  have t1 : Turn No w (w.alloc (.cells #[.bool leaf, .slice AK K.length ck, .slice AV V.length cv, .slice AD D.length cd, .string high, .bool bnd, .int .i64 sl, .int .u64 ge] 29)) := (Turn.refl _ _).alloc _
  have t2 : Turn No (w.alloc (.cells #[.bool leaf, .slice AK K.length ck, .slice AV V.length cv, .slice AD D.length cd, .string high, .bool bnd, .int .i64 sl, .int .u64 ge] 29)) ((w.alloc (.cells #[.bool leaf, .slice AK K.length ck, .slice AV V.length cv, .slice AD D.length cd, .string high, .bool bnd, .int .i64 sl, .int .u64 ge] 29)).alloc (.cells #[.bool false, .slice none 0 0, .slice none 0 0, .slice none 0 0, .string ⟨#[]⟩, .bool false, .int .i64 0, .int .u64 0] 29)) := (Turn.refl _ _).alloc _
  have a1 := (At.new w (.cells #[.bool leaf, .slice AK K.length ck, .slice AV V.length cv, .slice AD D.length cd, .string high, .bool bnd, .int .i64 sl, .int .u64 ge] 29)).no t2
  have a2 := At.new (w.alloc (.cells #[.bool leaf, .slice AK K.length ck, .slice AV V.length cv, .slice AD D.length cd, .string high, .bool bnd, .int .i64 sl, .int .u64 ge] 29)) (.cells #[.bool false, .slice none 0 0, .slice none 0 0, .slice none 0 0, .string ⟨#[]⟩, .bool false, .int .i64 0, .int .u64 0] 29)
  rw [World.size_alloc] at a2
  have HB : Hid (Turn No w ((w.alloc (.cells #[.bool leaf, .slice AK K.length ck, .slice AV V.length cv, .slice AD D.length cd, .string high, .bool bnd, .int .i64 sl, .int .u64 ge] 29)).alloc (.cells #[.bool false, .slice none 0 0, .slice none 0 0, .slice none 0 0, .string ⟨#[]⟩, .bool false, .int .i64 0, .int .u64 0] 29)) ∧ At ((w.alloc (.cells #[.bool leaf, .slice AK K.length ck, .slice AV V.length cv, .slice AD D.length cd, .string high, .bool bnd, .int .i64 sl, .int .u64 ge] 29)).alloc (.cells #[.bool false, .slice none 0 0, .slice none 0 0, .slice none 0 0, .string ⟨#[]⟩, .bool false, .int .i64 0, .int .u64 0] 29)) w.heap.size (.cells #[.bool leaf, .slice AK K.length ck, .slice AV V.length cv, .slice AD D.length cd, .string high, .bool bnd, .int .i64 sl, .int .u64 ge] 29 (0, 0)) ∧ At ((w.alloc (.cells #[.bool leaf, .slice AK K.length ck, .slice AV V.length cv, .slice AD D.length cd, .string high, .bool bnd, .int .i64 sl, .int .u64 ge] 29)).alloc (.cells #[.bool false, .slice none 0 0, .slice none 0 0, .slice none 0 0, .string ⟨#[]⟩, .bool false, .int .i64 0, .int .u64 0] 29)) (w.heap.size + 1) (.cells #[.bool false, .slice none 0 0, .slice none 0 0, .slice none 0 0, .string ⟨#[]⟩, .bool false, .int .i64 0, .int .u64 0] 29 (0, 0))) := Lib.hid ⟨t1.trans t2, a1, a2⟩
  clear t1 t2 a1 a2
  have HR := Lib.hid (And.intro hK (And.intro hV hD))
  have CK := Lib.hid fun (W : World) (t : Turn No w W) => texts_any K AK ck W (HR.out.1.no t) f1 n1
  have CV := Lib.hid fun (W : World) (t : Turn No w W) => texts_any V AV cv W (HR.out.2.1.no t) f2 n2
  have CD := Lib.hid fun (W : World) (t : Turn No w W) => clone54 D AD cd W (HR.out.2.2.no t) n3
  have CH := Lib.hid fun (W : World) => clone_any high f3 W
  clear hK hV hD f1 f2 f3 n1 n2 n3
  go_enter Try.func38, Try.ntmps38
  go_upto_region 1 with fail
  obtain ⟨w1, hw1⟩ : ∃ x, ((w.alloc (.cells #[.bool leaf, .slice AK K.length ck, .slice AV V.length cv, .slice AD D.length cd, .string high, .bool bnd, .int .i64 sl, .int .u64 ge] 29)).alloc (.cells #[.bool false, .slice none 0 0, .slice none 0 0, .slice none 0 0, .string ⟨#[]⟩, .bool false, .int .i64 0, .int .u64 0] 29)) = x := ⟨_, rfl⟩
  rw [hw1] at HB
  rw [hw1]
  obtain ⟨g, hg⟩ : ∃ x, w.heap.size = x := ⟨_, rfl⟩
  rw [hg] at HB
  rw [hg]
  have HG := Lib.hid hg
  clear hg
  have TD : Hid (Turn No w w1.drew) := Lib.hid HB.out.1.drew
  have HC : Hid (∀ W, Turn No w1 W → W.cell? ⟨g, 1, none⟩ = some (.slice AK K.length ck) ∧ W.cell? ⟨g, 2, none⟩ = some (.slice AV V.length cv) ∧ W.cell? ⟨g, 3, none⟩ = some (.slice AD D.length cd) ∧ W.frozen? ⟨g, 1, none⟩ = false ∧ W.frozen? ⟨g, 2, none⟩ = false ∧ W.frozen? ⟨g, 3, none⟩ = false) := Lib.hid fun W t => ⟨(HB.out.2.1.no t).cell 1, (HB.out.2.1.no t).cell 2, (HB.out.2.1.no t).cell 3, (HB.out.2.1.no t).thawed 1, (HB.out.2.1.no t).thawed 2, (HB.out.2.1.no t).thawed 3⟩
  obtain ⟨c1, c2, c3, z1, z2, z3⟩ := HC.out w1.drew (Turn.refl No w1).drew
  have HSZ : Hid (w1.heap.size = g + 2) := Lib.hid (by rw [← HG.out, ← hw1]; simp)
  clear hw1
  go_cut [5] from 3 to 14 (fun s wx => ∃ B1 d1 B2 d2 B3 d3, s = .slice B1 K.length d1 ∧ Hid (Turn No w wx ∧ At wx g (.cells #[.bool leaf, .slice B1 K.length d1, .slice B2 V.length d2, .slice B3 D.length d3, .string high, .bool bnd, .int .i64 sl, .int .u64 ge] 29 (0, 0)) ∧ At wx (g + 1) (.cells #[.bool false, .slice none 0 0, .slice none 0 0, .slice none 0 0, .string ⟨#[]⟩, .bool false, .int .i64 0, .int .u64 0] 29 (0, 0)) ∧ Own (g + 2) wx K V D B1 d1 B2 d2 B3 d3 ∧ (∀ i, ablk B1 = some i → ¬ ablk B2 = some i)))
  case first =>
    go_region_law (first | (go_simp; go_at_call 53; (with_reducible refine (CK.out _ TD.out).mono ?_); rintro e wx ⟨B1, d1, rfl, ho, ht⟩; have HX := Lib.hid (And.intro ho (And.intro ht ((Turn.refl No w1).drew.trans ht))); clear ho ht c1 c2 c3 z1 z2 z3; obtain ⟨c1, c2, c3, z1, z2, z3⟩ := HC.out wx HX.out.2.2) | (go_simp; go_at_call 53; (with_reducible refine (CV.out _ (HB.out.1.trans HX.out.2.2)).mono ?_); rintro e wy ⟨B2, d2, rfl, ho, ht⟩; have HY := Lib.hid (And.intro ho (And.intro ht (HX.out.2.2.trans ht))); clear ho ht c1 c2 c3 z1 z2 z3; obtain ⟨c1, c2, c3, z1, z2, z3⟩ := HC.out wy HY.out.2.2) | (go_simp; go_at_call 54; (with_reducible refine (CD.out _ (HB.out.1.trans HY.out.2.2)).mono ?_); rintro e wz ⟨B3, d3, rfl, ho, ht⟩; have HZ := Lib.hid (And.intro ho (And.intro ht (HY.out.2.2.trans ht))); clear ho ht c1 c2 c3 z1 z2 z3; obtain ⟨c1, c2, c3, z1, z2, z3⟩ := HC.out wz HZ.out.2.2))
    all_goals
      have HE : Hid (Turn No w (((wz.setCell ⟨g, 1, none⟩ (.slice B1 K.length d1)).setCell ⟨g, 2, none⟩ (.slice B2 V.length d2)).setCell ⟨g, 3, none⟩ (.slice B3 D.length d3)) ∧ At (((wz.setCell ⟨g, 1, none⟩ (.slice B1 K.length d1)).setCell ⟨g, 2, none⟩ (.slice B2 V.length d2)).setCell ⟨g, 3, none⟩ (.slice B3 D.length d3)) g (.cells #[.bool leaf, .slice B1 K.length d1, .slice B2 V.length d2, .slice B3 D.length d3, .string high, .bool bnd, .int .i64 sl, .int .u64 ge] 29 (0, 0)) ∧ At (((wz.setCell ⟨g, 1, none⟩ (.slice B1 K.length d1)).setCell ⟨g, 2, none⟩ (.slice B2 V.length d2)).setCell ⟨g, 3, none⟩ (.slice B3 D.length d3)) (g + 1) (.cells #[.bool false, .slice none 0 0, .slice none 0 0, .slice none 0 0, .string ⟨#[]⟩, .bool false, .int .i64 0, .int .u64 0] 29 (0, 0)) ∧ Own (g + 2) (((wz.setCell ⟨g, 1, none⟩ (.slice B1 K.length d1)).setCell ⟨g, 2, none⟩ (.slice B2 V.length d2)).setCell ⟨g, 3, none⟩ (.slice B3 D.length d3)) K V D B1 d1 B2 d2 B3 d3 ∧ (∀ i, ablk B1 = some i → ¬ ablk B2 = some i)) := Lib.hid (by
        have hs := HSZ.out
        have g1 := HX.out.2.2.size
        have g2 := HY.out.2.2.size
        have tw : Turn (fun k => k = g) wz (((wz.setCell ⟨g, 1, none⟩ (.slice B1 K.length d1)).setCell ⟨g, 2, none⟩ (.slice B2 V.length d2)).setCell ⟨g, 3, none⟩ (.slice B3 D.length d3)) := ((Turn.set1 wz g 1 _).trans (Turn.set1 _ g 2 _)).trans (Turn.set1 _ g 3 _)
        have o1 : Own (g + 2) wz K V D B1 d1 B2 d2 B3 d3 := ⟨own_from (own_grown (own_grown HX.out.1 HY.out.2.1 fun _ _ h => h) HZ.out.2.1 fun _ _ h => h) (by show g + 2 ≤ w1.heap.size; omega), own_from (own_grown HY.out.1 HZ.out.2.1 fun _ _ h => h) (by omega), own_from HZ.out.1 (by omega)⟩
        refine ⟨(HB.out.1.trans HZ.out.2.2).then tw fun i hi e => ?_, by simpa using (((HB.out.2.1.no HZ.out.2.2).set 1 (.slice B1 K.length d1)).set 2 (.slice B2 V.length d2)).set 3 (.slice B3 D.length d3), (HB.out.2.2.no HZ.out.2.2).turn tw (by omega), o1.past tw fun i e => by omega, own_old HX.out.1 HY.out.1 (Nat.le_refl _)⟩
        have := HG.out
        omega)
      generalize (((wz.setCell ⟨g, 1, none⟩ (.slice B1 K.length d1)).setCell ⟨g, 2, none⟩ (.slice B2 V.length d2)).setCell ⟨g, 3, none⟩ (.slice B3 D.length d3)) = w9 at HE ⊢
      clear c1 c2 c3 z1 z2 z3
      go_wp2_with fail
      go_meet
      exact ⟨B1, d1, B2, d2, B3, d3, rfl, HE⟩
  case rest =>
    obtain ⟨B1, d1, B2, d2, B3, d3, rfl, HE⟩ := hcut
    generalize wc = w2 at HE ⊢
    clear c1 c2 c3 z1 z2 z3 HC TD CK CV CD HR HSZ
    have c4 := HE.out.2.1.cell 4
    simp at c4
    go_upto_region 2 with fail
    go_upto_region 3 with (go_at_call 40; (with_reducible refine (CH.out _).mono ?_); rintro e w3 ⟨rfl, ht⟩; have H3 := Lib.hid ht; clear ht c4; obtain ⟨c4, z4⟩ := And.intro ((HE.out.2.1.no H3.out).cell 4) ((HE.out.2.1.no H3.out).thawed 4); simp at c4)
    have H4 : Hid (Turn No w (w3.setCell ⟨g, 4, none⟩ (.string high)) ∧ At (w3.setCell ⟨g, 4, none⟩ (.string high)) g (.cells #[.bool leaf, .slice B1 K.length d1, .slice B2 V.length d2, .slice B3 D.length d3, .string high, .bool bnd, .int .i64 sl, .int .u64 ge] 29 (0, 0)) ∧ At (w3.setCell ⟨g, 4, none⟩ (.string high)) (g + 1) (.cells #[.bool false, .slice none 0 0, .slice none 0 0, .slice none 0 0, .string ⟨#[]⟩, .bool false, .int .i64 0, .int .u64 0] 29 (0, 0)) ∧ Own (g + 2) (w3.setCell ⟨g, 4, none⟩ (.string high)) K V D B1 d1 B2 d2 B3 d3 ∧ (∀ i, ablk B1 = some i → ¬ ablk B2 = some i)) := Lib.hid (by
      have tw : Turn (fun k => k = g) w3 (w3.setCell ⟨g, 4, none⟩ (.string high)) := Turn.set1 w3 g 4 _
      refine ⟨(HE.out.1.trans H3.out).then tw fun i hi e => ?_, by simpa using (HE.out.2.1.no H3.out).set 4 (.string high), (HE.out.2.2.1.no H3.out).turn tw (by omega), (HE.out.2.2.2.1.no H3.out).past tw fun i e => by omega, HE.out.2.2.2.2⟩
      have := HG.out
      omega)
    clear c4 z4
    generalize w3.setCell ⟨g, 4, none⟩ (.string high) = w4 at H4 ⊢
    obtain ⟨c0, c1, c2, c3, c4, c5, c6, c7⟩ := at8 H4.out.2.1
    obtain ⟨e0, e1, e2, e3, e4, e5, e6, e7⟩ := at8 H4.out.2.2.1
    have z0 := H4.out.2.2.1.thawed 0
    have z1 := H4.out.2.2.1.thawed 1
    have z2 := H4.out.2.2.1.thawed 2
    have z3 := H4.out.2.2.1.thawed 3
    have z4 := H4.out.2.2.1.thawed 4
    have z5 := H4.out.2.2.1.thawed 5
    have z6 := H4.out.2.2.1.thawed 6
    have z7 := H4.out.2.2.1.thawed 7
    have H5 : Hid (At ((((((((w4.setCell ⟨g + 1, 0, none⟩ (.bool leaf)).setCell ⟨g + 1, 1, none⟩ (.slice B1 K.length d1)).setCell ⟨g + 1, 2, none⟩ (.slice B2 V.length d2)).setCell ⟨g + 1, 3, none⟩ (.slice B3 D.length d3)).setCell ⟨g + 1, 4, none⟩ (.string high)).setCell ⟨g + 1, 5, none⟩ (.bool bnd)).setCell ⟨g + 1, 6, none⟩ (.int .i64 sl)).setCell ⟨g + 1, 7, none⟩ (.int .u64 ge)) (g + 1) (.cells #[.bool leaf, .slice B1 K.length d1, .slice B2 V.length d2, .slice B3 D.length d3, .string high, .bool bnd, .int .i64 sl, .int .u64 ge] 29 (0, 0)) ∧ Own g ((((((((w4.setCell ⟨g + 1, 0, none⟩ (.bool leaf)).setCell ⟨g + 1, 1, none⟩ (.slice B1 K.length d1)).setCell ⟨g + 1, 2, none⟩ (.slice B2 V.length d2)).setCell ⟨g + 1, 3, none⟩ (.slice B3 D.length d3)).setCell ⟨g + 1, 4, none⟩ (.string high)).setCell ⟨g + 1, 5, none⟩ (.bool bnd)).setCell ⟨g + 1, 6, none⟩ (.int .i64 sl)).setCell ⟨g + 1, 7, none⟩ (.int .u64 ge)) K V D B1 d1 B2 d2 B3 d3 ∧ (∀ i, ablk B1 = some i → ¬ ablk B2 = some i) ∧ Turn No w ((((((((w4.setCell ⟨g + 1, 0, none⟩ (.bool leaf)).setCell ⟨g + 1, 1, none⟩ (.slice B1 K.length d1)).setCell ⟨g + 1, 2, none⟩ (.slice B2 V.length d2)).setCell ⟨g + 1, 3, none⟩ (.slice B3 D.length d3)).setCell ⟨g + 1, 4, none⟩ (.string high)).setCell ⟨g + 1, 5, none⟩ (.bool bnd)).setCell ⟨g + 1, 6, none⟩ (.int .i64 sl)).setCell ⟨g + 1, 7, none⟩ (.int .u64 ge))) := Lib.hid (by
      have tw := turn8 w4 (g + 1) (.bool leaf) (.slice B1 K.length d1) (.slice B2 V.length d2) (.slice B3 D.length d3) (.string high) (.bool bnd) (.int .i64 sl) (.int .u64 ge)
      refine ⟨put8 H4.out.2.2.1 _ _ _ _ _ _ _ _, (H4.out.2.2.2.1.past tw fun i e => by omega).from (by omega), H4.out.2.2.2.2, H4.out.1.then tw fun i hi e => ?_⟩
      have := HG.out
      omega)
    go_wp2_with fail
    generalize ((((((((w4.setCell ⟨g + 1, 0, none⟩ (.bool leaf)).setCell ⟨g + 1, 1, none⟩ (.slice B1 K.length d1)).setCell ⟨g + 1, 2, none⟩ (.slice B2 V.length d2)).setCell ⟨g + 1, 3, none⟩ (.slice B3 D.length d3)).setCell ⟨g + 1, 4, none⟩ (.string high)).setCell ⟨g + 1, 5, none⟩ (.bool bnd)).setCell ⟨g + 1, 6, none⟩ (.int .i64 sl)).setCell ⟨g + 1, 7, none⟩ (.int .u64 ge)) = w9 at H5 ⊢
    (try simp only [Exit.inBlock, Exit.then])
    refine bodyPost_ret (results_cell_row rfl _ _ (g + 1) 29 _ (0, 0) _ (by rfl) H5.out.1 Try.underlying29 rfl (by kernel_rfl)) rfl ?_
    exact ⟨B1, d1, B2, d2, B3, d3, rfl, by rw [HG.out]; exact H5.out.2.1, H5.out.2.2.1, H5.out.2.2.2⟩
end Go.Proofs.Ytengbkopihiiaaa
