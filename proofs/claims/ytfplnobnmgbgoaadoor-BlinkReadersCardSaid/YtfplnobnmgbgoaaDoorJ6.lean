/-
  clone: a node of its own.
  Put and Delete of pairs as inserts into keys and values; slices.Insert and slices.Delete by places; results that lie in cells.
  The leaves of a B-link tree as plain data: what they have, and what becomes of it.
  The document's Next (layer 10), as plain data.
  Levels of a B-link tree as plain data; the next key.
  What becomes of the levels of a B-link tree when a node is changed or split.
  A B-link tree as plain data: its levels, one above the other.
-/
import Derived.Test.YtfplnobnmgbgoaaDoorJ5
import Derived.Test.YtfplnobnmgbgoaaDoorJ3
namespace Go.Proofs.YtfplnobnmgbgoaaDoor
open Go.RowKit Go.Lib
set_option linter.unusedVariables false
set_option maxRecDepth 20000
set_option maxRecDepth 20000
set_option linter.unusedSimpArgs false

theorem own_old {w : World} {Z Z' n c : Nat} {t s : Nat} {A B : Option Addr} {n' c' : Nat} {xs ys : List Value} {w' : World} (h : w.ownsRow Z t s (.slice A n c) n xs) (h' : w'.ownsRow Z' t s (.slice B n' c') n' ys) (hz : w.heap.size ≤ Z') : ∀ i, ablk A = some i → ¬ ablk B = some i := fun i h1 h2 => by
  obtain ⟨_, cur, hat⟩ := own_at h h1
  have := hat.lt
  have := (own_at h' h2).1
  omega
def CloneRes (leaf : Bool) (K V : List ByteArray) (D : List Hn) (high : ByteArray) (bnd : Bool) (slot gen : Int) (w : World) (e : Ending) (w' : World) : Prop :=
  ∃ AK ck AV cv AD cd, e = .returned (.agg #[.bool leaf, .slice AK K.length ck, .slice AV V.length cv, .slice AD D.length cd, .string high, .bool bnd, .int .i64 slot, .int .u64 gen]) ∧ Own w.heap.size w' K V D AK ck AV cv AD cd ∧ (∀ i, ablk AK = some i → ¬ ablk AV = some i) ∧ Turn No w w'
theorem put8 {w : World} {g : Nat} {x0 x1 x2 x3 x4 x5 x6 x7 : Value} (h : At w g (.cells #[x0, x1, x2, x3, x4, x5, x6, x7] 79 (0, 0))) (y0 y1 y2 y3 y4 y5 y6 y7 : Value) : At ((((((((w.setCell ⟨g, 0, none⟩ y0).setCell ⟨g, 1, none⟩ y1).setCell ⟨g, 2, none⟩ y2).setCell ⟨g, 3, none⟩ y3).setCell ⟨g, 4, none⟩ y4).setCell ⟨g, 5, none⟩ y5).setCell ⟨g, 6, none⟩ y6).setCell ⟨g, 7, none⟩ y7) g (.cells #[y0, y1, y2, y3, y4, y5, y6, y7] 79 (0, 0)) := by simpa using (((((((h.set 0 y0).set 1 y1).set 2 y2).set 3 y3).set 4 y4).set 5 y5).set 6 y6).set 7 y7
theorem turn8 (w : World) (g : Nat) (y0 y1 y2 y3 y4 y5 y6 y7 : Value) : Turn (fun k => k = g) w ((((((((w.setCell ⟨g, 0, none⟩ y0).setCell ⟨g, 1, none⟩ y1).setCell ⟨g, 2, none⟩ y2).setCell ⟨g, 3, none⟩ y3).setCell ⟨g, 4, none⟩ y4).setCell ⟨g, 5, none⟩ y5).setCell ⟨g, 6, none⟩ y6).setCell ⟨g, 7, none⟩ y7) := (((((((((Turn.refl (fun k => k = g) w).trans (Turn.set1 _ g 0 y0)).trans (Turn.set1 _ g 1 y1)).trans (Turn.set1 _ g 2 y2)).trans (Turn.set1 _ g 3 y3)).trans (Turn.set1 _ g 4 y4)).trans (Turn.set1 _ g 5 y5)).trans (Turn.set1 _ g 6 y6)).trans (Turn.set1 _ g 7 y7))
theorem own_past {w w' : World} {Z n c : Nat} {t s : Nat} {A : Option Addr} {xs : List Value} {X : Nat → Prop} (h : w.ownsRow Z t s (.slice A n c) n xs) (tu : Turn X w w') (hX : ∀ i, X i → i < Z) : w'.ownsRow Z t s (.slice A n c) n xs := own_grown h tu fun k hk hx => by
  rw [own_ablk] at hk
  have := (own_at h hk).1
  have := hX k hx
  omega
/-- Turned below Z alone: rows that lie from Z on stay. -/
theorem Own.past {w w' : World} {Z : Nat} {K V : List ByteArray} {D : List Hn} {B1 B2 B3 : Option Addr} {d1 d2 d3 : Nat} {X : Nat → Prop} (h : Own Z w K V D B1 d1 B2 d2 B3 d3) (tu : Turn X w w') (hX : ∀ i, X i → i < Z) : Own Z w' K V D B1 d1 B2 d2 B3 d3 :=
  ⟨own_past h.k tu hX, own_past h.v tu hX, own_past h.d tu hX⟩
theorem Own.no {w w' : World} {Z : Nat} {K V : List ByteArray} {D : List Hn} {B1 B2 B3 : Option Addr} {d1 d2 d3 : Nat} (h : Own Z w K V D B1 d1 B2 d2 B3 d3) (tu : Turn No w w') : Own Z w' K V D B1 d1 B2 d2 B3 d3 :=
  h.past tu fun _ h => h.elim
theorem Own.from {w : World} {Z Z' : Nat} {K V : List ByteArray} {D : List Hn} {B1 B2 B3 : Option Addr} {d1 d2 d3 : Nat} (h : Own Z w K V D B1 d1 B2 d2 B3 d3) (hz : Z' ≤ Z) : Own Z' w K V D B1 d1 B2 d2 B3 d3 :=
  ⟨own_from h.k hz, own_from h.v hz, own_from h.d hz⟩
set_option maxRecDepth 100000 in
set_option maxHeartbeats 8000000 in
theorem cloneN (leaf : Bool) (K V : List ByteArray) (D : List Hn) (high : ByteArray) (bnd : Bool) (sl ge : Int) (AK AV AD : Option Addr) (ck cv cd : Nat) (w : World) (hK : Row w AK (kcs K)) (hV : Row w AV (kcs V)) (hD : Row w AD (hcs D)) (f1 : ∀ k ∈ K, Fit k) (f2 : ∀ k ∈ V, Fit k) (f3 : Fit high) (n1 : K.length ≤ 100000) (n2 : V.length ≤ 100000) (n3 : D.length ≤ 100000) :
    Calls Tryd.prog 66 #[.agg #[.bool leaf, .slice AK K.length ck, .slice AV V.length cv, .slice AD D.length cd, .string high, .bool bnd, .int .i64 sl, .int .u64 ge]] w fun e w' => CloneRes leaf K V D high bnd sl ge w e w' := by
  have t1 : Turn No w (w.alloc (.cells #[.bool leaf, .slice AK K.length ck, .slice AV V.length cv, .slice AD D.length cd, .string high, .bool bnd, .int .i64 sl, .int .u64 ge] 79)) := (Turn.refl _ _).alloc _
  have t2 : Turn No (w.alloc (.cells #[.bool leaf, .slice AK K.length ck, .slice AV V.length cv, .slice AD D.length cd, .string high, .bool bnd, .int .i64 sl, .int .u64 ge] 79)) ((w.alloc (.cells #[.bool leaf, .slice AK K.length ck, .slice AV V.length cv, .slice AD D.length cd, .string high, .bool bnd, .int .i64 sl, .int .u64 ge] 79)).alloc (.cells #[.bool false, .slice none 0 0, .slice none 0 0, .slice none 0 0, .string ⟨#[]⟩, .bool false, .int .i64 0, .int .u64 0] 79)) := (Turn.refl _ _).alloc _
  have a1 := (At.new w (.cells #[.bool leaf, .slice AK K.length ck, .slice AV V.length cv, .slice AD D.length cd, .string high, .bool bnd, .int .i64 sl, .int .u64 ge] 79)).no t2
  have a2 := At.new (w.alloc (.cells #[.bool leaf, .slice AK K.length ck, .slice AV V.length cv, .slice AD D.length cd, .string high, .bool bnd, .int .i64 sl, .int .u64 ge] 79)) (.cells #[.bool false, .slice none 0 0, .slice none 0 0, .slice none 0 0, .string ⟨#[]⟩, .bool false, .int .i64 0, .int .u64 0] 79)
  rw [World.size_alloc] at a2
  have HB : Hid (Turn No w ((w.alloc (.cells #[.bool leaf, .slice AK K.length ck, .slice AV V.length cv, .slice AD D.length cd, .string high, .bool bnd, .int .i64 sl, .int .u64 ge] 79)).alloc (.cells #[.bool false, .slice none 0 0, .slice none 0 0, .slice none 0 0, .string ⟨#[]⟩, .bool false, .int .i64 0, .int .u64 0] 79)) ∧ At ((w.alloc (.cells #[.bool leaf, .slice AK K.length ck, .slice AV V.length cv, .slice AD D.length cd, .string high, .bool bnd, .int .i64 sl, .int .u64 ge] 79)).alloc (.cells #[.bool false, .slice none 0 0, .slice none 0 0, .slice none 0 0, .string ⟨#[]⟩, .bool false, .int .i64 0, .int .u64 0] 79)) w.heap.size (.cells #[.bool leaf, .slice AK K.length ck, .slice AV V.length cv, .slice AD D.length cd, .string high, .bool bnd, .int .i64 sl, .int .u64 ge] 79 (0, 0)) ∧ At ((w.alloc (.cells #[.bool leaf, .slice AK K.length ck, .slice AV V.length cv, .slice AD D.length cd, .string high, .bool bnd, .int .i64 sl, .int .u64 ge] 79)).alloc (.cells #[.bool false, .slice none 0 0, .slice none 0 0, .slice none 0 0, .string ⟨#[]⟩, .bool false, .int .i64 0, .int .u64 0] 79)) (w.heap.size + 1) (.cells #[.bool false, .slice none 0 0, .slice none 0 0, .slice none 0 0, .string ⟨#[]⟩, .bool false, .int .i64 0, .int .u64 0] 79 (0, 0))) := Lib.hid ⟨t1.trans t2, a1, a2⟩
  clear t1 t2 a1 a2
  have HR := Lib.hid (And.intro hK (And.intro hV hD))
  have CK := Lib.hid fun (W : World) (t : Turn No w W) => texts_any K AK ck W (HR.out.1.no t) f1 n1
  have CV := Lib.hid fun (W : World) (t : Turn No w W) => texts_any V AV cv W (HR.out.2.1.no t) f2 n2
  have CD := Lib.hid fun (W : World) (t : Turn No w W) => clone54 D AD cd W (HR.out.2.2.no t) n3
  have CH := Lib.hid fun (W : World) => clone_any high f3 W
  clear hK hV hD f1 f2 f3 n1 n2 n3
  go_enter Tryd.func66, Tryd.ntmps66
  go_upto_region 1 with fail
  obtain ⟨w1, hw1⟩ : ∃ x, ((w.alloc (.cells #[.bool leaf, .slice AK K.length ck, .slice AV V.length cv, .slice AD D.length cd, .string high, .bool bnd, .int .i64 sl, .int .u64 ge] 79)).alloc (.cells #[.bool false, .slice none 0 0, .slice none 0 0, .slice none 0 0, .string ⟨#[]⟩, .bool false, .int .i64 0, .int .u64 0] 79)) = x := ⟨_, rfl⟩
  rw [hw1] at HB
  rw [hw1]
  obtain ⟨g, hg⟩ : ∃ x, w.heap.size = x := ⟨_, rfl⟩
  rw [hg] at HB
  rw [hg]
  have HG := Lib.hid hg
  clear hg
  have TD : Hid (Turn No w w1.drew) := Lib.hid HB.out.1.drew
  have HC : Hid (∀ W, Turn No w1 W → W.cell? ⟨g, 1, none⟩ = some (.slice AK K.length ck) ∧ W.cell? ⟨g, 2, none⟩ = some (.slice AV V.length cv) ∧ W.cell? ⟨g, 3, none⟩ = some (.slice AD D.length cd) ∧ W.frozen? ⟨g, 1, none⟩ = false ∧ W.frozen? ⟨g, 2, none⟩ = false ∧ W.frozen? ⟨g, 3, none⟩ = false) := Lib.hid fun W t => ⟨(HB.out.2.1.no t).cell 1, (HB.out.2.1.no t).cell 2, (HB.out.2.1.no t).cell 3, (HB.out.2.1.no t).thawed 1, (HB.out.2.1.no t).thawed 2, (HB.out.2.1.no t).thawed 3⟩
  obtain ⟨c1, c2, c3, z1, z2, z3⟩ := HC.out w1.drew (Turn.refl No w1).drew
  have HSZ : Hid (w1.heap.size = g + 2) := Lib.hid (by rw [← HG.out, ← hw1]; simp)
  clear hw1
  go_cut [5] from 3 to 14 (fun s wx => ∃ B1 d1 B2 d2 B3 d3, s = .slice B1 K.length d1 ∧ Hid (Turn No w wx ∧ At wx g (.cells #[.bool leaf, .slice B1 K.length d1, .slice B2 V.length d2, .slice B3 D.length d3, .string high, .bool bnd, .int .i64 sl, .int .u64 ge] 79 (0, 0)) ∧ At wx (g + 1) (.cells #[.bool false, .slice none 0 0, .slice none 0 0, .slice none 0 0, .string ⟨#[]⟩, .bool false, .int .i64 0, .int .u64 0] 79 (0, 0)) ∧ Own (g + 2) wx K V D B1 d1 B2 d2 B3 d3 ∧ (∀ i, ablk B1 = some i → ¬ ablk B2 = some i)))
  case first =>
    go_region_law (first | (go_simp; go_at_call 84; (with_reducible refine (CK.out _ TD.out).mono ?_); rintro e wx ⟨B1, d1, rfl, ho, ht⟩; have HX := Lib.hid (And.intro ho (And.intro ht ((Turn.refl No w1).drew.trans ht))); clear ho ht c1 c2 c3 z1 z2 z3; obtain ⟨c1, c2, c3, z1, z2, z3⟩ := HC.out wx HX.out.2.2) | (go_simp; go_at_call 84; (with_reducible refine (CV.out _ (HB.out.1.trans HX.out.2.2)).mono ?_); rintro e wy ⟨B2, d2, rfl, ho, ht⟩; have HY := Lib.hid (And.intro ho (And.intro ht (HX.out.2.2.trans ht))); clear ho ht c1 c2 c3 z1 z2 z3; obtain ⟨c1, c2, c3, z1, z2, z3⟩ := HC.out wy HY.out.2.2) | (go_simp; go_at_call 85; (with_reducible refine (CD.out _ (HB.out.1.trans HY.out.2.2)).mono ?_); rintro e wz ⟨B3, d3, rfl, ho, ht⟩; have HZ := Lib.hid (And.intro ho (And.intro ht (HY.out.2.2.trans ht))); clear ho ht c1 c2 c3 z1 z2 z3; obtain ⟨c1, c2, c3, z1, z2, z3⟩ := HC.out wz HZ.out.2.2))
    all_goals
      have HE : Hid (Turn No w (((wz.setCell ⟨g, 1, none⟩ (.slice B1 K.length d1)).setCell ⟨g, 2, none⟩ (.slice B2 V.length d2)).setCell ⟨g, 3, none⟩ (.slice B3 D.length d3)) ∧ At (((wz.setCell ⟨g, 1, none⟩ (.slice B1 K.length d1)).setCell ⟨g, 2, none⟩ (.slice B2 V.length d2)).setCell ⟨g, 3, none⟩ (.slice B3 D.length d3)) g (.cells #[.bool leaf, .slice B1 K.length d1, .slice B2 V.length d2, .slice B3 D.length d3, .string high, .bool bnd, .int .i64 sl, .int .u64 ge] 79 (0, 0)) ∧ At (((wz.setCell ⟨g, 1, none⟩ (.slice B1 K.length d1)).setCell ⟨g, 2, none⟩ (.slice B2 V.length d2)).setCell ⟨g, 3, none⟩ (.slice B3 D.length d3)) (g + 1) (.cells #[.bool false, .slice none 0 0, .slice none 0 0, .slice none 0 0, .string ⟨#[]⟩, .bool false, .int .i64 0, .int .u64 0] 79 (0, 0)) ∧ Own (g + 2) (((wz.setCell ⟨g, 1, none⟩ (.slice B1 K.length d1)).setCell ⟨g, 2, none⟩ (.slice B2 V.length d2)).setCell ⟨g, 3, none⟩ (.slice B3 D.length d3)) K V D B1 d1 B2 d2 B3 d3 ∧ (∀ i, ablk B1 = some i → ¬ ablk B2 = some i)) := Lib.hid (by
        have hs := HSZ.out
        have g1 := HX.out.2.2.size
        have g2 := HY.out.2.2.size
        have tw : Turn (fun k => k = g) wz (((wz.setCell ⟨g, 1, none⟩ (.slice B1 K.length d1)).setCell ⟨g, 2, none⟩ (.slice B2 V.length d2)).setCell ⟨g, 3, none⟩ (.slice B3 D.length d3)) := ((Turn.set1 wz g 1 _).trans (Turn.set1 _ g 2 _)).trans (Turn.set1 _ g 3 _)
        have o1 : Own (g + 2) wz K V D B1 d1 B2 d2 B3 d3 := ⟨own_from (own_grown (own_grown HX.out.1 HY.out.2.1 fun _ _ h => h) HZ.out.2.1 fun _ _ h => h) (by show g + 2 ≤ w1.heap.size; omega), own_from (own_grown HY.out.1 HZ.out.2.1 fun _ _ h => h) (by omega), own_from HZ.out.1 (by omega)⟩
        refine ⟨(HB.out.1.trans HZ.out.2.2).then tw fun i hi e => ?_, by simpa using (((HB.out.2.1.no HZ.out.2.2).set 1 (.slice B1 K.length d1)).set 2 (.slice B2 V.length d2)).set 3 (.slice B3 D.length d3), (HB.out.2.2.no HZ.out.2.2).turn tw (by omega), o1.past tw fun i e => by omega, own_old HX.out.1 HY.out.1 (Nat.le_refl _)⟩
        have := HG.out
        omega)
      generalize (((wz.setCell ⟨g, 1, none⟩ (.slice B1 K.length d1)).setCell ⟨g, 2, none⟩ (.slice B2 V.length d2)).setCell ⟨g, 3, none⟩ (.slice B3 D.length d3)) = w9 at HE ⊢
      clear c1 c2 c3 z1 z2 z3
      go_wp2_with fail
      go_meet
      exact ⟨B1, d1, B2, d2, B3, d3, rfl, HE⟩
  case rest =>
    obtain ⟨B1, d1, B2, d2, B3, d3, rfl, HE⟩ := hcut
    generalize wc = w2 at HE ⊢
    clear c1 c2 c3 z1 z2 z3 HC TD CK CV CD HR HSZ
    have c4 := HE.out.2.1.cell 4
    simp at c4
    go_upto_region 2 with fail
    go_upto_region 3 with (go_at_call 36; (with_reducible refine (CH.out _).mono ?_); rintro e w3 ⟨rfl, ht⟩; have H3 := Lib.hid ht; clear ht c4; obtain ⟨c4, z4⟩ := And.intro ((HE.out.2.1.no H3.out).cell 4) ((HE.out.2.1.no H3.out).thawed 4); simp at c4)
    have H4 : Hid (Turn No w (w3.setCell ⟨g, 4, none⟩ (.string high)) ∧ At (w3.setCell ⟨g, 4, none⟩ (.string high)) g (.cells #[.bool leaf, .slice B1 K.length d1, .slice B2 V.length d2, .slice B3 D.length d3, .string high, .bool bnd, .int .i64 sl, .int .u64 ge] 79 (0, 0)) ∧ At (w3.setCell ⟨g, 4, none⟩ (.string high)) (g + 1) (.cells #[.bool false, .slice none 0 0, .slice none 0 0, .slice none 0 0, .string ⟨#[]⟩, .bool false, .int .i64 0, .int .u64 0] 79 (0, 0)) ∧ Own (g + 2) (w3.setCell ⟨g, 4, none⟩ (.string high)) K V D B1 d1 B2 d2 B3 d3 ∧ (∀ i, ablk B1 = some i → ¬ ablk B2 = some i)) := Lib.hid (by
      have tw : Turn (fun k => k = g) w3 (w3.setCell ⟨g, 4, none⟩ (.string high)) := Turn.set1 w3 g 4 _
      refine ⟨(HE.out.1.trans H3.out).then tw fun i hi e => ?_, by simpa using (HE.out.2.1.no H3.out).set 4 (.string high), (HE.out.2.2.1.no H3.out).turn tw (by omega), (HE.out.2.2.2.1.no H3.out).past tw fun i e => by omega, HE.out.2.2.2.2⟩
      have := HG.out
      omega)
    clear c4 z4
    generalize w3.setCell ⟨g, 4, none⟩ (.string high) = w4 at H4 ⊢
    obtain ⟨c0, c1, c2, c3, c4, c5, c6, c7⟩ := at8 H4.out.2.1
    obtain ⟨e0, e1, e2, e3, e4, e5, e6, e7⟩ := at8 H4.out.2.2.1
    have z0 := H4.out.2.2.1.thawed 0
    have z1 := H4.out.2.2.1.thawed 1
    have z2 := H4.out.2.2.1.thawed 2
    have z3 := H4.out.2.2.1.thawed 3
    have z4 := H4.out.2.2.1.thawed 4
    have z5 := H4.out.2.2.1.thawed 5
    have z6 := H4.out.2.2.1.thawed 6
    have z7 := H4.out.2.2.1.thawed 7
    have H5 : Hid (At ((((((((w4.setCell ⟨g + 1, 0, none⟩ (.bool leaf)).setCell ⟨g + 1, 1, none⟩ (.slice B1 K.length d1)).setCell ⟨g + 1, 2, none⟩ (.slice B2 V.length d2)).setCell ⟨g + 1, 3, none⟩ (.slice B3 D.length d3)).setCell ⟨g + 1, 4, none⟩ (.string high)).setCell ⟨g + 1, 5, none⟩ (.bool bnd)).setCell ⟨g + 1, 6, none⟩ (.int .i64 sl)).setCell ⟨g + 1, 7, none⟩ (.int .u64 ge)) (g + 1) (.cells #[.bool leaf, .slice B1 K.length d1, .slice B2 V.length d2, .slice B3 D.length d3, .string high, .bool bnd, .int .i64 sl, .int .u64 ge] 79 (0, 0)) ∧ Own g ((((((((w4.setCell ⟨g + 1, 0, none⟩ (.bool leaf)).setCell ⟨g + 1, 1, none⟩ (.slice B1 K.length d1)).setCell ⟨g + 1, 2, none⟩ (.slice B2 V.length d2)).setCell ⟨g + 1, 3, none⟩ (.slice B3 D.length d3)).setCell ⟨g + 1, 4, none⟩ (.string high)).setCell ⟨g + 1, 5, none⟩ (.bool bnd)).setCell ⟨g + 1, 6, none⟩ (.int .i64 sl)).setCell ⟨g + 1, 7, none⟩ (.int .u64 ge)) K V D B1 d1 B2 d2 B3 d3 ∧ (∀ i, ablk B1 = some i → ¬ ablk B2 = some i) ∧ Turn No w ((((((((w4.setCell ⟨g + 1, 0, none⟩ (.bool leaf)).setCell ⟨g + 1, 1, none⟩ (.slice B1 K.length d1)).setCell ⟨g + 1, 2, none⟩ (.slice B2 V.length d2)).setCell ⟨g + 1, 3, none⟩ (.slice B3 D.length d3)).setCell ⟨g + 1, 4, none⟩ (.string high)).setCell ⟨g + 1, 5, none⟩ (.bool bnd)).setCell ⟨g + 1, 6, none⟩ (.int .i64 sl)).setCell ⟨g + 1, 7, none⟩ (.int .u64 ge))) := Lib.hid (by
      have tw := turn8 w4 (g + 1) (.bool leaf) (.slice B1 K.length d1) (.slice B2 V.length d2) (.slice B3 D.length d3) (.string high) (.bool bnd) (.int .i64 sl) (.int .u64 ge)
      refine ⟨put8 H4.out.2.2.1 _ _ _ _ _ _ _ _, (H4.out.2.2.2.1.past tw fun i e => by omega).from (by omega), H4.out.2.2.2.2, H4.out.1.then tw fun i hi e => ?_⟩
      have := HG.out
      omega)
    go_wp2_with fail
    generalize ((((((((w4.setCell ⟨g + 1, 0, none⟩ (.bool leaf)).setCell ⟨g + 1, 1, none⟩ (.slice B1 K.length d1)).setCell ⟨g + 1, 2, none⟩ (.slice B2 V.length d2)).setCell ⟨g + 1, 3, none⟩ (.slice B3 D.length d3)).setCell ⟨g + 1, 4, none⟩ (.string high)).setCell ⟨g + 1, 5, none⟩ (.bool bnd)).setCell ⟨g + 1, 6, none⟩ (.int .i64 sl)).setCell ⟨g + 1, 7, none⟩ (.int .u64 ge)) = w9 at H5 ⊢
    (try simp only [Exit.inBlock, Exit.then])
    refine bodyPost_ret (results_cell_row rfl _ _ (g + 1) 79 _ (0, 0) _ (by rfl) H5.out.1 Tryd.underlying79 rfl (by kernel_rfl)) rfl ?_
    exact ⟨B1, d1, B2, d2, B3, d3, rfl, by rw [HG.out]; exact H5.out.2.1, H5.out.2.2.1, H5.out.2.2.2⟩
end Go.Proofs.YtfplnobnmgbgoaaDoor
namespace Go.Proofs.YtfplnobnmgbgoaaDoor
open Go.RowKit Go.Lib
set_option linter.unusedVariables false
set_option maxRecDepth 20000
set_option maxRecDepth 20000
set_option linter.unusedSimpArgs false

theorem zip_keys : ∀ {K V : List ByteArray}, V.length = K.length → (zipP K V).map Pr.k = K ∧ (zipP K V).map Pr.v = V
  | [], [], _ => ⟨rfl, rfl⟩
  | k :: K, v :: V, h => by
    obtain ⟨h1, h2⟩ := zip_keys (K := K) (V := V) (by simpa using h)
    exact ⟨by show k :: (zipP K V).map Pr.k = _; rw [h1], by show v :: (zipP K V).map Pr.v = _; rw [h2]⟩
  | [], _ :: _, h => by simp at h
  | _ :: _, [], h => by simp at h
theorem zip_asc {K V : List ByteArray} (h : V.length = K.length) (hr : Rk K) : Asc (zipP K V) := asc_keys.2 (by rw [(zip_keys h).1]; exact hr)
theorem low_take {key : ByteArray} : ∀ {l : List Pr}, Asc l → lowL l key = l.take (plc (l.map Pr.k) key) ∧ hiL l key = l.drop (plc (l.map Pr.k) key)
  | [], _ => ⟨rfl, rfl⟩
  | p :: t, h => by
    have ih := low_take (key := key) (l := t) (List.Pairwise.of_cons h)
    have hp : ∀ q ∈ t, kl p.k q.k := fun q hq => List.rel_of_pairwise_cons h hq
    unfold lowL hiL at ih ⊢
    rw [List.map_cons, plc_cons]
    by_cases e : kl p.k key
    · rw [if_pos e, List.takeWhile_cons_of_pos (by simpa using e), List.dropWhile_cons_of_pos (by simpa using e), Nat.add_comm, List.take_succ_cons, List.drop_succ_cons, ih.1, ih.2]
      exact ⟨rfl, rfl⟩
    · have h0 : plc (t.map Pr.k) key = 0 := by
        unfold plc
        rw [List.filter_eq_nil_iff.2 fun y hy => by
          obtain ⟨q, hq, rfl⟩ := List.mem_map.1 hy
          simp only [decide_eq_true_eq]
          exact fun h2 => e (kl_trans (hp q hq) h2)]
        rfl
      rw [if_neg e, h0, List.takeWhile_cons_of_neg (by simpa using e), List.dropWhile_cons_of_neg (by simpa using e)]
      exact ⟨rfl, rfl⟩
theorem has_in {l : List Pr} (ha : Asc l) {key : ByteArray} : hasL l key = inK (l.map Pr.k) key := by
  cases hh : hasL l key with
  | true =>
    obtain ⟨v, t, ht⟩ := has_true hh
    refine (inK_iff.2 (List.mem_map.2 ⟨(⟨key, v⟩ : Pr), ?_, rfl⟩)).symm
    rw [← split_L l key, ht]
    simp
  | false =>
    refine (inK_no.2 fun hm => ?_).symm
    obtain ⟨q, hq, e⟩ := List.mem_map.1 hm
    rw [← split_L l key] at hq
    rcases List.mem_append.1 hq with h | h
    · exact kl_ne (low_mem h) e
    · exact kl_ne (ha.has_false hh h) e.symm
theorem plc_lt {K : List ByteArray} (h : Rk K) {key : ByteArray} (hm : inK K key = true) : plc K key < K.length := by
  have := (plc_mem h).2 (inK_iff.1 hm)
  exact (List.getElem?_eq_some_iff.1 this).1
/-- Without what stands at a place. -/
def era {α : Type} (L : List α) (i : Nat) : List α := L.take i ++ L.drop (i + 1)
theorem era_length {α : Type} (L : List α) {i : Nat} (hi : i < L.length) : (era L i).length = L.length - 1 := by
  unfold era
  rw [List.length_append, List.length_take, List.length_drop]
  omega
section
variable {K V : List ByteArray} (hl : V.length = K.length) (hr : Rk K) {key : ByteArray}
include hl hr
theorem get_zip : getL (zipP K V) key = if inK K key = true then V[plc K key]? else none := by
  have := get_plc (k := key) (zip_asc hl hr)
  rwa [(zip_keys hl).1, (zip_keys hl).2] at this
theorem putL_yes (h : inK K key = true) (val : ByteArray) : (putL (zipP K V) key val).map Pr.k = K ∧ (putL (zipP K V) key val).map Pr.v = V.set (plc K key) val := by
  have ha := zip_asc hl hr
  have hP := plc_lt hr h
  have e1 : hasL (zipP K V) key = true := by rw [has_in ha, (zip_keys hl).1, h]
  rw [put_low, if_pos e1, (low_take ha).1, (low_take ha).2, (zip_keys hl).1, List.tail_drop, List.map_append, List.map_append, List.map_cons, List.map_cons, List.map_take, List.map_take, List.map_drop, List.map_drop, (zip_keys hl).1, (zip_keys hl).2]
  have hk := (plc_mem hr).2 (inK_iff.1 h)
  constructor
  · conv => rhs; rw [← List.take_append_drop (plc K key) K]
    rw [List.drop_eq_getElem_cons hP]
    have : K[plc K key] = key := by
      have := List.getElem?_eq_some_iff.1 hk
      exact this.2
    rw [this]
  · rw [List.set_eq_take_append_cons_drop, if_pos (by omega)]
theorem putL_no (h : inK K key = false) (val : ByteArray) : (putL (zipP K V) key val).map Pr.k = ins K (plc K key) key ∧ (putL (zipP K V) key val).map Pr.v = ins V (plc K key) val := by
  have ha := zip_asc hl hr
  have e1 : ¬ hasL (zipP K V) key = true := by rw [has_in ha, (zip_keys hl).1, h]; decide
  rw [put_low, if_neg e1, (low_take ha).1, (low_take ha).2, (zip_keys hl).1, List.map_append, List.map_append, List.map_cons, List.map_cons, List.map_take, List.map_take, List.map_drop, List.map_drop, (zip_keys hl).1, (zip_keys hl).2]
  exact ⟨rfl, rfl⟩
theorem delL_yes (h : inK K key = true) : (delL (zipP K V) key).map Pr.k = era K (plc K key) ∧ (delL (zipP K V) key).map Pr.v = era V (plc K key) := by
  have ha := zip_asc hl hr
  have e1 : hasL (zipP K V) key = true := by rw [has_in ha, (zip_keys hl).1, h]
  rw [ha.del_low, if_pos e1, (low_take ha).1, (low_take ha).2, (zip_keys hl).1, List.tail_drop, List.map_append, List.map_append, List.map_take, List.map_take, List.map_drop, List.map_drop, (zip_keys hl).1, (zip_keys hl).2]
  exact ⟨rfl, rfl⟩
theorem delL_no (h : inK K key = false) : delL (zipP K V) key = zipP K V := by
  refine del_none (zip_asc hl hr) ?_
  rw [get_zip hl hr, h]
  rfl
end
theorem take_drop_len {α : Type} (L : List α) {i : Nat} (hi : i ≤ L.length) : (L.take i).length = i ∧ (L.drop i).length = L.length - i ∧ (L.take i).length + (L.drop i).length = L.length := by
  rw [List.length_take, List.length_drop]
  omega
theorem own_ins_len {α : Type} (L : List α) {i : Nat} (hi : i ≤ L.length) (x : α) : (ins L i x).length = L.length + 1 := ins_length L hi x
/-- slices.Insert of one text. -/
theorem insK {w : World} {Z cap : Nat} {A : Option Addr} (K : List ByteArray) {i : Nat} (hi : i ≤ K.length) (h : w.ownsRow Z 9 1 (.slice A K.length cap) K.length (kcs K)) (hn : K.length ≤ 50000) (vb : Nat) (p : ByteArray) (hp : At w vb (.cells #[.string p] 9 (0, 0))) (hne : ablk A ≠ some vb) (hz : Z ≤ w.heap.size) :
    Calls Tryd.prog 68 #[.slice A K.length cap, .int .i64 (i : Int), .slice (some ⟨vb, 0, none⟩) 1 1] w fun e w' => ∃ B cap', e = .returned (.slice (some ⟨B, 0, none⟩) (K.length + 1) cap') ∧
      w'.ownsRow Z 9 1 (.slice (some ⟨B, 0, none⟩) (K.length + 1) cap') (K.length + 1) (kcs (ins K i p)) ∧ Turn (fun k => ablk A = some k) w w' ∧ (ablk A = some B ∨ w.heap.size ≤ B) := by
  obtain ⟨e1, e2, e3⟩ := take_drop_len K hi
  have := IK.insert_any (w := w) (Z := Z) (cap := cap) (A := A) (K.take i) (K.drop i) (by rw [e3, List.take_append_drop]; exact h) (by omega) vb p hp (by rw [own_ablk]; exact hne) hz
  rw [e3, e1] at this
  simpa only [own_ablk, ins] using this
/-- slices.Insert of one handle. -/
theorem insH {w : World} {Z cap : Nat} {A : Option Addr} (K : List Hn) {i : Nat} (hi : i ≤ K.length) (h : w.ownsRow Z 77 2 (.slice A K.length cap) K.length (hcs K)) (hn : K.length ≤ 50000) (vb : Nat) (p : Hn) (hp : At w vb (.cells #[.int .i64 p.slot, .int .u64 p.gen] 77 (0, 0))) (hne : ablk A ≠ some vb) (hz : Z ≤ w.heap.size) :
    Calls Tryd.prog 90 #[.slice A K.length cap, .int .i64 (i : Int), .slice (some ⟨vb, 0, none⟩) 1 1] w fun e w' => ∃ B cap', e = .returned (.slice (some ⟨B, 0, none⟩) (K.length + 1) cap') ∧
      w'.ownsRow Z 77 2 (.slice (some ⟨B, 0, none⟩) (K.length + 1) cap') (K.length + 1) (hcs (ins K i p)) ∧ Turn (fun k => ablk A = some k) w w' ∧ (ablk A = some B ∨ w.heap.size ≤ B) := by
  obtain ⟨e1, e2, e3⟩ := take_drop_len K hi
  have := IH.insert_any (w := w) (Z := Z) (cap := cap) (A := A) (K.take i) (K.drop i) (by rw [e3, List.take_append_drop]; exact h) (by omega) vb p hp (by rw [own_ablk]; exact hne) hz
  rw [e3, e1] at this
  simpa only [own_ablk, ins] using this
/-- slices.Delete of one text. -/
theorem delK {w : World} {Z cap : Nat} {A : Option Addr} (K : List ByteArray) {i : Nat} (hi : i < K.length) (h : w.ownsRow Z 9 1 (.slice A K.length cap) K.length (kcs K)) :
    Calls Tryd.prog 74 #[.slice A K.length cap, .int .i64 (i : Int), .int .i64 ((i : Int) + 1)] w fun e w' => e = .returned (.slice A (K.length - 1) cap) ∧
      w'.ownsRow Z 9 1 (.slice A (K.length - 1) cap) (K.length - 1) (kcs (era K i)) ∧ Turn (fun k => ablk A = some k) w w' := by
  have e : K = K.take i ++ K[i] :: K.drop (i + 1) := by rw [List.getElem_cons_drop, List.take_append_drop]
  have l1 : (K.take i).length = i := by rw [List.length_take]; omega
  have l2 : (K.take i).length + ((K.drop (i + 1)).length + 1) = K.length := by rw [List.length_take, List.length_drop]; omega
  have l3 : (K.take i).length + (K.drop (i + 1)).length = K.length - 1 := by rw [List.length_take, List.length_drop]; omega
  have hcap : 0 < cap := Nat.lt_of_lt_of_le (by omega) (own_capN h)
  obtain ⟨g, cur, rfl, hz, hc, hd⟩ := IK.Hd.of_own h rfl hcap
  have := IK.delete_any (w := w) (K.take i) (K.drop (i + 1)) K[i] (by rw [← e]; exact hd) hc
  rw [l2, l3, l1] at this
  refine this.mono ?_
  rintro r w' ⟨rfl, ⟨cur', hd'⟩, ht⟩
  refine ⟨rfl, ?_, ht.mono fun k _ e => by subst e; rfl⟩
  have := hd'.own hz hc
  have l4 : (K.take i ++ K.drop (i + 1)).length = K.length - 1 := by rw [List.length_append]; exact l3
  rw [l4] at this
  exact this
theorem kcs_set {K : List ByteArray} (i : Nat) (v : ByteArray) : (kcs K).set i (.string v) = kcs (K.set i v) := by
  unfold kcs
  rw [List.map_set]
theorem results_cell12 {fn : Func} {p q r : Tmp} {ty : TypeId} (h : fn.results = #[.cell p ty, .tmp q, .tmp r]) (tmps : Array Value) (w : World) (g : Nat) (t : TypeId) (cs : Array Value) (fr : Nat × Nat) (d : Array Field)
    (hp : tmps.getD p undef = .pointer (some ⟨g, 0, none⟩)) (hg : At w g (.cells cs t fr)) (hu : Tryd.prog.underlying ty = some (.struct d)) (hi : (Tryd.prog.info? ty).map (·.size) = some cs.size) :
    (results fn tmps).run Tryd.prog w = .ok (.tuple #[.agg cs, tmps.getD q undef, tmps.getD r undef]) w := by
  have hp' : tmps[p]?.getD undef = .pointer (some ⟨g, 0, none⟩) := by simpa using hp
  simp [results, h, hp', asAddr, Sem.run_bind, Result.andThen, run_loadVar_row w g t ty cs fr (.struct d) hg hu rfl hi]
theorem results_cell11 {fn : Func} {p q : Tmp} {ty : TypeId} (h : fn.results = #[.cell p ty, .tmp q]) (tmps : Array Value) (w : World) (g : Nat) (t : TypeId) (cs : Array Value) (fr : Nat × Nat) (d : Array Field)
    (hp : tmps.getD p undef = .pointer (some ⟨g, 0, none⟩)) (hg : At w g (.cells cs t fr)) (hu : Tryd.prog.underlying ty = some (.struct d)) (hi : (Tryd.prog.info? ty).map (·.size) = some cs.size) :
    (results fn tmps).run Tryd.prog w = .ok (.tuple #[.agg cs, tmps.getD q undef]) w := by
  have hp' : tmps[p]?.getD undef = .pointer (some ⟨g, 0, none⟩) := by simpa using hp
  simp [results, h, hp', asAddr, Sem.run_bind, Result.andThen, run_loadVar_row w g t ty cs fr (.struct d) hg hu rfl hi]
theorem results_cell21 {fn : Func} {p q r : Tmp} {ty tz : TypeId} (h : fn.results = #[.cell p ty, .cell q tz, .tmp r]) (tmps : Array Value) (w : World) (g g' : Nat) (t t' : TypeId) (cs cs' : Array Value) (fr fr' : Nat × Nat) (d d' : Array Field)
    (hp : tmps.getD p undef = .pointer (some ⟨g, 0, none⟩)) (hq : tmps.getD q undef = .pointer (some ⟨g', 0, none⟩)) (hg : At w g (.cells cs t fr)) (hg' : At w g' (.cells cs' t' fr'))
    (hu : Tryd.prog.underlying ty = some (.struct d)) (hi : (Tryd.prog.info? ty).map (·.size) = some cs.size)
    (hu' : Tryd.prog.underlying tz = some (.struct d')) (hi' : (Tryd.prog.info? tz).map (·.size) = some cs'.size) :
    (results fn tmps).run Tryd.prog w = .ok (.tuple #[.agg cs, .agg cs', tmps.getD r undef]) w := by
  have hp' : tmps[p]?.getD undef = .pointer (some ⟨g, 0, none⟩) := by simpa using hp
  have hq' : tmps[q]?.getD undef = .pointer (some ⟨g', 0, none⟩) := by simpa using hq
  simp [results, h, hp', hq', asAddr, Sem.run_bind, Result.andThen, run_loadVar_row w g t ty cs fr (.struct d) hg hu rfl hi, run_loadVar_row w g' t' tz cs' fr' (.struct d') hg' hu' rfl hi']
/-- Rows of one's own stay where a node is written. -/
theorem Own.wr {w w' : World} {Z g : Nat} {K V : List ByteArray} {D : List Hn} {B1 B2 B3 : Option Addr} {d1 d2 d3 : Nat} {c : Array Value} {f : Nat × Nat} (h : Own Z w K V D B1 d1 B2 d2 B3 d3) (hg : At w g (.cells c 79 f)) (tu : Turn (fun k => k = g) w w') : Own Z w' K V D B1 d1 B2 d2 B3 d3 :=
  ⟨own_grown h.k tu fun k hk e => own_neG h.k hg (by decide) (by rw [← e]; exact hk), own_grown h.v tu fun k hk e => own_neG h.v hg (by decide) (by rw [← e]; exact hk), own_grown h.d tu fun k hk e => own_neG h.d hg (by decide) (by rw [← e]; exact hk)⟩
end Go.Proofs.YtfplnobnmgbgoaaDoor
namespace Go.Proofs.YtfplnobnmgbgoaaDoor
open Go.RowKit Go.Lib
set_option linter.unusedVariables false
set_option maxRecDepth 20000
set_option linter.unusedSimpArgs false

/-- A leaf above a bound. -/
def Lf1 (lo : Option ByteArray) (n : Nd) : Prop := n.leaf = true ∧ NdRight n ∧ (∀ l, lo = some l → ∀ k ∈ n.keys, ¬ kl k l) ∧ (∀ l, lo = some l → n.bnd = true → kl l n.high)
/-- The leaves of a tree, from the left to the right: each begins where the one before ends. -/
def Ch : Option ByteArray → List Nd → Prop
  | _, [] => False
  | lo, [n] => Lf1 lo n ∧ n.bnd = false
  | lo, n :: m :: r => Lf1 lo n ∧ n.bnd = true ∧ Ch (some n.high) (m :: r)
def prs (n : Nd) : List Pr := zipP n.keys n.vals
/-- What the leaves have. -/
def flat (ls : List Nd) : List Pr := ls.flatMap prs
theorem flat_cons (n : Nd) (ls : List Nd) : flat (n :: ls) = prs n ++ flat ls := List.flatMap_cons ..
theorem flat_append (A B : List Nd) : flat (A ++ B) = flat A ++ flat B := List.flatMap_append ..
theorem prs_keys {n : Nd} (hl : n.leaf = true) (hr : NdRight n) : (prs n).map Pr.k = n.keys ∧ (prs n).map Pr.v = n.vals := zip_keys (hr.2.2.2.1 hl).1
theorem prs_asc {n : Nd} (hl : n.leaf = true) (hr : NdRight n) : Asc (prs n) := zip_asc (hr.2.2.2.1 hl).1 hr.1
theorem prs_mem {n : Nd} (hl : n.leaf = true) (hr : NdRight n) {p : Pr} (hp : p ∈ prs n) : p.k ∈ n.keys := by
  have := List.mem_map_of_mem (f := Pr.k) hp
  rwa [(prs_keys hl hr).1] at this
/-- All that stands from a bound on is not below it. -/
theorem ch_ge : ∀ {ls : List Nd} {l : ByteArray}, Ch (some l) ls → ∀ p ∈ flat ls, ¬ kl p.k l
  | [], _, h, _, _ => h.elim
  | [n], l, h, p, hp => by
    rw [flat_cons] at hp
    rcases List.mem_append.1 hp with hp | hp
    · exact h.1.2.2.1 l rfl _ (prs_mem h.1.1 h.1.2.1 hp)
    · simp [flat] at hp
  | n :: m :: r, l, h, p, hp => by
    obtain ⟨h1, h2, h3⟩ := h
    rw [flat_cons] at hp
    rcases List.mem_append.1 hp with hp | hp
    · exact h1.2.2.1 l rfl _ (prs_mem h1.1 h1.2.1 hp)
    · have := ch_ge h3 p hp
      have hk := h1.2.2.2 l rfl h2
      exact fun h => this (kl_trans h hk)
theorem ch_head {lo : Option ByteArray} {n : Nd} {B : List Nd} (h : Ch lo (n :: B)) : Lf1 lo n ∧ (B ≠ [] → n.bnd = true ∧ Ch (some n.high) B) ∧ (B = [] → n.bnd = false) := by
  cases B with
  | nil => exact ⟨h.1, fun h => absurd rfl h, fun _ => h.2⟩
  | cons m r => exact ⟨h.1, fun _ => h.2, fun h => by cases h⟩
theorem ch_cons {lo : Option ByteArray} {n : Nd} {B : List Nd} (h1 : Lf1 lo n) (hb : n.bnd = true) (h : Ch (some n.high) B) : Ch lo (n :: B) := by
  cases B with
  | nil => exact h.elim
  | cons m r => exact ⟨h1, hb, h⟩
/-- What stands behind a leaf is above each key that it covers. -/
theorem ch_above {lo : Option ByteArray} {n : Nd} {B : List Nd} (h : Ch lo (n :: B)) {key : ByteArray} (hc : NdCov n key) : ∀ p ∈ flat B, kl key p.k := fun p hp => by
  obtain ⟨_, h2, _⟩ := ch_head h
  have hB : B ≠ [] := fun e => by rw [e] at hp; simp [flat] at hp
  obtain ⟨hb, h3⟩ := h2 hB
  exact kl_lt_le (hc hb) (ch_ge h3 p hp)
/-- The leaf that covers a key, the first one: all ahead is below the key, all behind above it. -/
theorem ch_parts : ∀ {A : List Nd} {n : Nd} {B : List Nd} {lo : Option ByteArray} {key : ByteArray}, Ch lo (A ++ n :: B) → (∀ a ∈ A, ¬ NdCov a key) → NdCov n key →
    (∀ p ∈ flat A, kl p.k key) ∧ (∀ p ∈ flat B, kl key p.k) ∧ n.leaf = true ∧ NdRight n
  | [], n, B, lo, key, h, hA, hc => ⟨fun p hp => by simp [flat] at hp, ch_above h hc, (ch_head h).1.1, (ch_head h).1.2.1⟩
  | a :: A, n, B, lo, key, h, hA, hc => by
    obtain ⟨h1, h2, _⟩ := ch_head h
    obtain ⟨hb, h3⟩ := h2 (by simp)
    obtain ⟨k1, k2, k3⟩ := ch_parts h3 (fun x hx => hA x (List.mem_cons_of_mem _ hx)) hc
    refine ⟨fun p hp => ?_, k2, k3⟩
    rw [flat_cons] at hp
    rcases List.mem_append.1 hp with hp | hp
    · have hk := h1.2.1.2.2.1 hb _ (prs_mem h1.1 h1.2.1 hp)
      have hn : ¬ kl key a.high := fun h => hA a (List.mem_cons_self ..) fun _ => h
      exact kl_lt_le hk hn
    · exact k1 p hp
theorem put_high {k v : ByteArray} : ∀ {A B : List Pr}, (∀ p ∈ B, kl k p.k) → putL (A ++ B) k v = putL A k v ++ B
  | [], [], _ => rfl
  | [], p :: t, h => by
    have h1 := h p (List.mem_cons_self ..)
    show (if kl p.k k then p :: putL t k v else if p.k = k then ⟨k, v⟩ :: t else ⟨k, v⟩ :: p :: t) = _
    rw [if_neg (kl_asymm h1), if_neg fun e => kl_ne h1 e.symm]
    rfl
  | p :: A, B, h => by
    have ih := put_high (k := k) (v := v) (A := A) h
    show (if kl p.k k then p :: putL (A ++ B) k v else if p.k = k then ⟨k, v⟩ :: (A ++ B) else ⟨k, v⟩ :: p :: (A ++ B)) = (if kl p.k k then p :: putL A k v else if p.k = k then ⟨k, v⟩ :: A else ⟨k, v⟩ :: p :: A) ++ B
    rw [ih]
    split
    · rfl
    · split <;> rfl
theorem get_mid {A M B : List Pr} {k : ByteArray} (hA : ∀ p ∈ A, kl p.k k) (hB : ∀ p ∈ B, kl k p.k) : getL (A ++ M ++ B) k = getL M k := by
  unfold getL
  rw [List.find?_append, List.find?_append, List.find?_eq_none.2 (fun p hp => by simpa using kl_ne (hA p hp))]
  cases h : M.find? (fun p => decide (p.k = k)) with
  | some p => simp [h]
  | none => simp [h, List.find?_eq_none.2 (fun p hp => by simpa using fun e => kl_ne (hB p hp) e.symm : ∀ p ∈ B, ¬ decide (p.k = k) = true)]
theorem put_mid {A M B : List Pr} {k v : ByteArray} (hA : ∀ p ∈ A, kl p.k k) (hB : ∀ p ∈ B, kl k p.k) : putL (A ++ M ++ B) k v = A ++ putL M k v ++ B := by
  rw [put_high hB, put_low_all hA]
theorem del_mid {A M B : List Pr} {k : ByteArray} (hA : ∀ p ∈ A, kl p.k k) (hB : ∀ p ∈ B, kl k p.k) : delL (A ++ M ++ B) k = A ++ delL M k ++ B := by
  unfold delL
  rw [List.filter_append, List.filter_append, (List.filter_eq_self (l := A)).2 (fun p hp => by simpa using kl_ne (hA p hp)), (List.filter_eq_self (l := B)).2 (fun p hp => by simpa using fun e => kl_ne (hB p hp) e.symm)]
theorem flat_split (A : List Nd) (n : Nd) (B : List Nd) : flat (A ++ n :: B) = flat A ++ prs n ++ flat B := by rw [flat_append, flat_cons, List.append_assoc]
section
variable {A : List Nd} {n : Nd} {B : List Nd} {lo : Option ByteArray} {key : ByteArray} (h : Ch lo (A ++ n :: B)) (hA : ∀ a ∈ A, ¬ NdCov a key) (hc : NdCov n key)
include h hA hc
/-- What a tree has for a key is what the key's leaf has. -/
theorem ch_get : getL (flat (A ++ n :: B)) key = getL (prs n) key := by
  obtain ⟨h1, h2, _⟩ := ch_parts h hA hc
  rw [flat_split A n B, get_mid h1 h2]
theorem ch_put {m : Nd} {v : ByteArray} (hm : prs m = putL (prs n) key v) : flat (A ++ m :: B) = putL (flat (A ++ n :: B)) key v := by
  obtain ⟨h1, h2, _⟩ := ch_parts h hA hc
  rw [flat_split A n B, put_mid h1 h2, flat_append, flat_cons, hm, List.append_assoc]
theorem ch_del {m : Nd} (hm : prs m = delL (prs n) key) : flat (A ++ m :: B) = delL (flat (A ++ n :: B)) key := by
  obtain ⟨h1, h2, _⟩ := ch_parts h hA hc
  rw [flat_split A n B, del_mid h1 h2, flat_append, flat_cons, hm, List.append_assoc]
end
theorem lf1_asc {lo : Option ByteArray} {n : Nd} (h : Lf1 lo n) : Asc (prs n) := prs_asc h.1 h.2.1
/-- What the leaves have rises. -/
theorem ch_asc : ∀ {ls : List Nd} {lo : Option ByteArray}, Ch lo ls → Asc (flat ls)
  | [], _, h => h.elim
  | [n], _, h => by
    rw [flat_cons]
    show Asc (prs n ++ [])
    rw [List.append_nil]
    exact lf1_asc h.1
  | n :: m :: r, _, h => by
    obtain ⟨h1, h2, h3⟩ := h
    rw [flat_cons]
    refine List.pairwise_append.2 ⟨lf1_asc h1, ch_asc h3, fun p hp q hq => ?_⟩
    exact kl_lt_le (h1.2.1.2.2.1 h2 _ (prs_mem h1.1 h1.2.1 hp)) (ch_ge h3 q hq)
/-- A leaf is changed for another one with the same end, whose keys lie where the elder's might: the row is right again. -/
theorem ch_swap : ∀ {A : List Nd} {n m : Nd} {B : List Nd} {lo : Option ByteArray}, Ch lo (A ++ n :: B) → m.leaf = true → NdRight m → m.bnd = n.bnd → m.high = n.high → (∀ lo2, Lf1 lo2 n → ∀ l, lo2 = some l → ∀ k ∈ m.keys, ¬ kl k l) → Ch lo (A ++ m :: B)
  | [], n, m, B, lo, h, m1, m2, m3, m4, m5 => by
    obtain ⟨h1, h2, h3⟩ := ch_head h
    have hm : Lf1 lo m := ⟨m1, m2, m5 lo h1, fun l hl hb => by rw [m4]; exact h1.2.2.2 l hl (by rw [← m3]; exact hb)⟩
    cases B with
    | nil => exact ⟨hm, by rw [m3]; exact h3 rfl⟩
    | cons x r =>
      obtain ⟨k1, k2⟩ := h2 (by simp)
      exact ⟨hm, by rw [m3]; exact k1, by rw [m4]; exact k2⟩
  | a :: A, n, m, B, lo, h, m1, m2, m3, m4, m5 => by
    obtain ⟨h1, h2, _⟩ := ch_head h
    obtain ⟨hb, h3⟩ := h2 (by simp)
    exact ch_cons h1 hb (ch_swap h3 m1 m2 m3 m4 m5)
/-- A leaf is changed for two that have what it had: the row is right again. -/
theorem ch_two : ∀ {A : List Nd} {n x y : Nd} {B : List Nd} {lo : Option ByteArray}, Ch lo (A ++ n :: B) → x.leaf = true → y.leaf = true → NdRight x → NdRight y → x.bnd = true → y.bnd = n.bnd → y.high = n.high → (∀ k ∈ x.keys, k ∈ n.keys) → (∀ k ∈ y.keys, k ∈ n.keys) → x.high ∈ n.keys → (∃ k ∈ x.keys, kl k x.high) → (∀ k ∈ y.keys, ¬ kl k x.high) → Ch lo (A ++ x :: y :: B)
  | [], n, x, y, B, lo, h, x1, y1, x2, y2, x3, y3, y4, xk, yk, hs, ⟨k0, hk0, hk1⟩, hy => by
    obtain ⟨h1, h2, h3⟩ := ch_head h
    have hx : Lf1 lo x := ⟨x1, x2, fun l hl k hk => h1.2.2.1 l hl k (xk k hk), fun l hl _ => kl_le_lt (h1.2.2.1 l hl k0 (xk k0 hk0)) hk1⟩
    have hyy : Lf1 (some x.high) y := ⟨y1, y2, fun l hl k hk => by injection hl with hl; rw [← hl]; exact hy k hk, fun l hl hb => by injection hl with hl; rw [← hl, y4]; exact h1.2.1.2.2.1 (by rw [← y3]; exact hb) _ hs⟩
    refine ⟨hx, x3, ?_⟩
    cases B with
    | nil => exact ⟨hyy, by rw [y3]; exact h3 rfl⟩
    | cons z r =>
      obtain ⟨k1, k2⟩ := h2 (by simp)
      exact ⟨hyy, by rw [y3]; exact k1, by rw [y4]; exact k2⟩
  | a :: A, n, x, y, B, lo, h, x1, y1, x2, y2, x3, y3, y4, xk, yk, hs, hk, hy => by
    obtain ⟨h1, h2, _⟩ := ch_head h
    obtain ⟨hb, h3⟩ := h2 (by simp)
    exact ch_cons h1 hb (ch_two h3 x1 y1 x2 y2 x3 y3 y4 xk yk hs hk hy)
theorem flat_two {A : List Nd} {n x y : Nd} {B : List Nd} (h : prs x ++ prs y = prs n) : flat (A ++ x :: y :: B) = flat (A ++ n :: B) := by
  rw [flat_append, flat_cons, flat_cons, flat_append, flat_cons, ← h, List.append_assoc]
end Go.Proofs.YtfplnobnmgbgoaaDoor
namespace Go.Proofs.YtfplnobnmgbgoaaDoor
open Go.RowKit Go.Lib
set_option linter.unusedVariables false
set_option maxRecDepth 20000
set_option linter.unusedSimpArgs false

/-- Is a pair passed over by the document's Next? -/
def nxP (key : ByteArray) (aft : Bool) (p : Pr) : Bool := decide (kl p.k key) || (aft && decide (p.k = key))
def nxR (l : List Pr) (key : ByteArray) (aft : Bool) : Option Pr := l.find? fun p => !nxP key aft p
def nxT : Option Pr → Value
  | some p => .tuple #[.agg #[.string p.k, .string p.v], .bool true]
  | none => .tuple #[.agg #[.string ⟨#[]⟩, .string ⟨#[]⟩], .bool false]
theorem nx_first {l : List Pr} {i : Nat} {p : Pr} (hp : l[i]? = some p) {key : ByteArray} {aft : Bool} (hn : ∀ q ∈ l.take i, nxP key aft q = true) (he : nxP key aft p = false) : nxR l key aft = some p := by
  unfold nxR
  rw [List.find?_eq_some_iff_append]
  have hlt : i < l.length := (List.getElem?_eq_some_iff.1 hp).1
  have hpe : l[i] = p := (List.getElem?_eq_some_iff.1 hp).2
  refine ⟨by simp [he], l.take i, l.drop (i + 1), ?_, fun q hq => by simp [hn q hq]⟩
  rw [← hpe, List.getElem_cons_drop, List.take_append_drop]
theorem nx_none {l : List Pr} {key : ByteArray} {aft : Bool} (hn : ∀ q ∈ l, nxP key aft q = true) : nxR l key aft = none := by
  unfold nxR
  rw [List.find?_eq_none]
  intro q hq
  simp [hn q hq]
end Go.Proofs.YtfplnobnmgbgoaaDoor
namespace Go.Proofs.YtfplnobnmgbgoaaDoor
open Go.RowKit Go.Lib
set_option linter.unusedVariables false
set_option maxRecDepth 20000
set_option linter.unusedSimpArgs false

theorem nx_low {A T : List Pr} {key : ByteArray} {aft : Bool} (h : ∀ p ∈ A, kl p.k key) : nxR (A ++ T) key aft = nxR T key aft := by
  unfold nxR
  rw [List.find?_append, List.find?_eq_none.2 (fun p hp => by simp [nxP, decide_eq_true (h p hp)])]
  rfl
theorem nx_up {B : List Pr} {key : ByteArray} {aft : Bool} (h : ∀ p ∈ B, kl key p.k) : nxR B key aft = B.head? := by
  cases B with
  | nil => rfl
  | cons p t =>
    have h1 := h p (List.mem_cons_self ..)
    unfold nxR
    rw [List.find?_cons_of_pos (by simp [nxP, decide_eq_false (kl_asymm h1), decide_eq_false (fun e : p.k = key => kl_ne h1 e.symm)])]
    rfl
/-- The next key is the leaf's, or the first one behind it. -/
theorem ch_next {A : List Nd} {n : Nd} {B : List Nd} {lo : Option ByteArray} {key : ByteArray} {aft : Bool} (h : Ch lo (A ++ n :: B)) (hA : ∀ a ∈ A, ¬ NdCov a key) (hc : NdCov n key) :
    nxR (flat (A ++ n :: B)) key aft = (nxR (prs n) key aft).or (flat B).head? := by
  obtain ⟨h1, h2, _⟩ := ch_parts h hA hc
  rw [flat_split A n B, List.append_assoc, nx_low h1, ← nx_up (aft := aft) h2]
  unfold nxR
  rw [List.find?_append]
theorem flat_head (n : Nd) (B : List Nd) : (flat (n :: B)).head? = (prs n).head?.or (flat B).head? := by
  rw [flat_cons, List.head?_append]
/-- The next key in a leaf, by its place. -/
theorem nx_plc {l : List Pr} (h : Asc l) (key : ByteArray) (aft : Bool) : nxR l key aft = l[if (inK (l.map Pr.k) key && aft) = true then plc (l.map Pr.k) key + 1 else plc (l.map Pr.k) key]? := by
  induction l with
  | nil => simp [nxR]
  | cons p t ih =>
    have hp : ∀ q ∈ t, kl p.k q.k := fun q hq => List.rel_of_pairwise_cons h hq
    have ht : Asc t := List.Pairwise.of_cons h
    by_cases e : kl p.k key
    · have hk : inK ((p :: t).map Pr.k) key = inK (t.map Pr.k) key := by
        rw [List.map_cons]
        unfold inK
        have : ¬ p.k = key := kl_ne e
        simp [this]
      rw [hk, List.map_cons, plc_cons, if_pos e, show nxR (p :: t) key aft = nxR t key aft from nx_low (A := [p]) (fun q hq => by simp at hq; subst hq; exact e), ih ht]
      split
      · rw [show 1 + plc (t.map Pr.k) key + 1 = (plc (t.map Pr.k) key + 1) + 1 by omega, List.getElem?_cons_succ]
      · rw [Nat.add_comm 1, List.getElem?_cons_succ]
    · have h0 : plc (t.map Pr.k) key = 0 := by
        unfold plc
        rw [List.filter_eq_nil_iff.2 fun y hy => by
          obtain ⟨q, hq, rfl⟩ := List.mem_map.1 hy
          simp only [decide_eq_true_eq]
          exact fun h2 => e (kl_trans (hp q hq) h2)]
        rfl
      rw [List.map_cons, plc_cons, if_neg e, h0]
      by_cases hk : p.k = key
      · have hin : inK (p.k :: t.map Pr.k) key = true := inK_iff.2 (by rw [hk]; exact List.mem_cons_self ..)
        rw [hin]
        have hup : ∀ q ∈ t, kl key q.k := fun q hq => by rw [← hk]; exact hp q hq
        cases aft with
        | true =>
          have : nxR (p :: t) key true = nxR t key true := by
            unfold nxR
            rw [List.find?_cons_of_neg (by simp [nxP, hk])]
          rw [this, nx_up hup]
          cases t <;> simp
        | false =>
          have : nxR (p :: t) key false = some p := by
            unfold nxR
            rw [List.find?_cons_of_pos (by simp [nxP, e])]
          rw [this]
          simp
      · have hlt : kl key p.k := by
          rcases kl_tri p.k key with h1 | h1 | h1
          · exact absurd h1 e
          · exact absurd h1 hk
          · exact h1
        have hout : inK (p.k :: t.map Pr.k) key = false := inK_no.2 fun hm => by
          rcases List.mem_cons.1 hm with h1 | h1
          · exact hk h1.symm
          · obtain ⟨q, hq, e2⟩ := List.mem_map.1 h1
            exact kl_ne (kl_trans hlt (hp q hq)) e2.symm
        rw [hout, nx_up fun q hq => ?_]
        · simp
        · rcases List.mem_cons.1 hq with h1 | h1
          · rw [h1]; exact hlt
          · exact kl_trans hlt (hp q h1)
/-- Where a node ends. -/
def En1 (n : Nd) : Option ByteArray := if n.bnd = true then some n.high else none
def covE (e : Option ByteArray) (key : ByteArray) : Prop := ∀ h, e = some h → kl key h
theorem cov_iff (n : Nd) (key : ByteArray) : NdCov n key ↔ covE (En1 n) key := by
  unfold NdCov covE En1
  constructor
  · intro h x hx
    split at hx
    · injection hx with hx
      rw [← hx]
      exact h (by assumption)
    · cases hx
  · intro h hb
    exact h _ (by rw [if_pos hb])
def endsOf (n : Nd) : List (Option ByteArray) := n.keys.map some ++ [En1 n]
/-- A level and the one below it: each node's keys and its end are where its kids end. -/
structure Lev (up down : List (Hn × Nd)) : Prop where
  ends : up.flatMap (fun x => endsOf x.2) = down.map fun x => En1 x.2
  kids : up.flatMap (fun x => x.2.kids) = down.map Prod.fst
  inner : ∀ x ∈ up, x.2.leaf = false ∧ NdRight x.2
theorem lev_len : ∀ {up : List (Hn × Nd)}, (∀ x ∈ up, x.2.leaf = false ∧ NdRight x.2) → (up.flatMap fun x => x.2.kids).length = (up.flatMap fun x => endsOf x.2).length
  | [], _ => rfl
  | x :: t, h => by
    obtain ⟨h1, h2⟩ := h x (List.mem_cons_self ..)
    rw [List.flatMap_cons, List.flatMap_cons, List.length_append, List.length_append, lev_len fun y hy => h y (List.mem_cons_of_mem _ hy), (h2.2.2.2.2 h1).2]
    unfold endsOf
    simp
theorem kix_spec {K : List ByteArray} (h : Rk K) (key : ByteArray) : (∀ j k, K[j]? = some k → j < kix K key → ¬ kl key k) ∧ (∀ j k, K[j]? = some k → kix K key ≤ j → kl key k) := by
  constructor
  · intro j k hj hlt
    have hm : k ∈ K.take (kix K key) := List.mem_of_getElem? (i := j) (by rw [List.getElem?_take, if_pos hlt]; exact hj)
    rw [take_kix h] at hm
    simpa using (List.mem_filter.1 hm).2
  · intro j k hj hle
    have hm : k ∈ K.drop (kix K key) := List.mem_of_getElem? (i := j - kix K key) (by rw [List.getElem?_drop, show kix K key + (j - kix K key) = j by omega]; exact hj)
    rw [drop_kix h] at hm
    simpa using (List.mem_filter.1 hm).2
/-- Where a key's kid stands among the ends. -/
theorem ends_kix {n : Nd} (hr : Rk n.keys) {key : ByteArray} (hc : NdCov n key) : ∃ e, (endsOf n)[kix n.keys key]? = some e ∧ covE e key ∧ ∀ j, j < kix n.keys key → ∃ h, (endsOf n)[j]? = some (some h) ∧ ¬ kl key h := by
  have hle := kix_le n.keys key
  have hlow : ∀ j k, n.keys[j]? = some k → j < kix n.keys key → ¬ kl key k := fun j k hj hlt => by
    have := (kix_spec hr key).1 j k hj hlt
    exact this
  refine ⟨if h : kix n.keys key < n.keys.length then some n.keys[kix n.keys key] else En1 n, ?_, ?_, fun j hj => ?_⟩
  · unfold endsOf
    split
    · rename_i h
      rw [List.getElem?_append_left (by simpa using h)]
      simp [h]
    · rename_i h
      have : kix n.keys key = n.keys.length := by omega
      rw [List.getElem?_append_right (by simp; omega)]
      simp [this]
  · split
    · rename_i h
      intro x hx
      injection hx with hx
      rw [← hx]
      exact (kix_spec hr key).2 _ _ (List.getElem?_eq_getElem h) (Nat.le_refl _)
    · exact (cov_iff n key).1 hc
  · obtain ⟨k, hk⟩ : ∃ k, n.keys[j]? = some k := ⟨n.keys[j]'(by omega), List.getElem?_eq_getElem (by omega)⟩
    refine ⟨k, ?_, hlow j k hk hj⟩
    unfold endsOf
    rw [List.getElem?_append_left (by simp; omega)]
    simp [hk]
theorem rows_kids {A : List (Hn × Nd)} {h : Hn} {n : Nd} {B : List (Hn × Nd)} {α : Type} (f : Hn × Nd → List α) : (A ++ (h, n) :: B).flatMap f = A.flatMap f ++ f (h, n) ++ B.flatMap f := by
  rw [List.flatMap_append, List.flatMap_cons, List.append_assoc]
/-- Down from the node that covers a key, to the kid that Kid tells: it is the first node of the level below that covers the key. -/
theorem lev_down {up down : List (Hn × Nd)} (hL : Lev up down) {A : List (Hn × Nd)} {h : Hn} {n : Nd} {B : List (Hn × Nd)} {key : ByteArray} (hu : up = A ++ (h, n) :: B) (hA : ∀ a ∈ A, ¬ NdCov a.2 key) (hc : NdCov n key) :
    ∃ D1 kid c D2, down = D1 ++ (kid, c) :: D2 ∧ n.kids[kix n.keys key]? = some kid ∧ NdCov c key ∧ (∀ d ∈ D1, ¬ NdCov d.2 key) ∧ D1.length = (A.flatMap fun x => endsOf x.2).length + kix n.keys key := by
  have hn := hL.inner (h, n) (by rw [hu]; simp)
  have hin : ∀ x ∈ A, x.2.leaf = false ∧ NdRight x.2 := fun x hx => hL.inner x (by rw [hu]; exact List.mem_append.2 (.inl hx))
  obtain ⟨e, he, hcov, hlow⟩ := ends_kix hn.2.1 hc
  have hkl := (hn.2.2.2.2.2 hn.1).2
  have hkl : n.kids.length = n.keys.length + 1 := hkl
  have hle := kix_le n.keys key
  obtain ⟨kid, hkid⟩ : ∃ x, n.kids[kix n.keys key]? = some x := ⟨n.kids[kix n.keys key]'(by omega), List.getElem?_eq_getElem (by omega)⟩
  have hlen := lev_len hin
  obtain ⟨q, hq⟩ : ∃ q, (A.flatMap fun x => endsOf x.2).length = q := ⟨_, rfl⟩
  rw [hq] at hlen
  have hel : (endsOf n).length = n.keys.length + 1 := by unfold endsOf; simp
  have e1 : (down.map fun x => En1 x.2)[q + kix n.keys key]? = some e := by
    rw [← hL.ends, hu, rows_kids, List.getElem?_append_left (by rw [List.length_append, hq]; show _ < q + (endsOf n).length; omega), List.getElem?_append_right (by omega), hq, show q + kix n.keys key - q = kix n.keys key by omega]
    exact he
  have e2 : (down.map Prod.fst)[q + kix n.keys key]? = some kid := by
    rw [← hL.kids, hu, rows_kids, List.getElem?_append_left (by rw [List.length_append, hlen]; show _ < q + n.kids.length; omega), List.getElem?_append_right (by omega), hlen, show q + kix n.keys key - q = kix n.keys key by omega]
    exact hkid
  rw [List.getElem?_map] at e1 e2
  obtain ⟨⟨k2, c⟩, hd⟩ : ∃ x, down[q + kix n.keys key]? = some x := by
    cases hx : down[q + kix n.keys key]? with
    | none => rw [hx] at e1; cases e1
    | some x => exact ⟨x, rfl⟩
  rw [hd] at e1 e2
  have e1 : En1 c = e := by injection e1
  have e2 : k2 = kid := by injection e2
  subst e2
  refine ⟨down.take (q + kix n.keys key), k2, c, down.drop (q + kix n.keys key + 1), ?_, hkid, (cov_iff c key).2 (by rw [e1]; exact hcov), fun d hd2 hcd => ?_, by rw [hq, List.length_take]; have := (List.getElem?_eq_some_iff.1 hd).1; omega⟩
  · have hlt := (List.getElem?_eq_some_iff.1 hd).1
    have := (List.getElem?_eq_some_iff.1 hd).2
    rw [← this, List.getElem_cons_drop, List.take_append_drop]
  · obtain ⟨j, hj⟩ := List.mem_iff_getElem?.1 hd2
    rw [List.getElem?_take] at hj
    split at hj
    · rename_i hjlt
      have e3 : (down.map fun x => En1 x.2)[j]? = some (En1 d.2) := by rw [List.getElem?_map, hj]; rfl
      have hcv := (cov_iff d.2 key).1 hcd
      rw [← hL.ends, hu, rows_kids] at e3
      rcases Nat.lt_or_ge j q with h1 | h1
      · rw [List.getElem?_append_left (by rw [List.length_append, hq]; omega), List.getElem?_append_left (by omega)] at e3
        have hm := List.mem_of_getElem? e3
        obtain ⟨a, ha, hae⟩ := List.mem_flatMap.1 hm
        have hna := hA a ha
        have hab : a.2.bnd = true ∧ ¬ kl key a.2.high := by
          cases hb : a.2.bnd with
          | true => exact ⟨rfl, fun hk => hna fun _ => hk⟩
          | false => exact absurd (fun h2 => by rw [hb] at h2; cases h2) hna
        unfold endsOf at hae
        rcases List.mem_append.1 hae with h2 | h2
        · obtain ⟨k, hk, hke⟩ := List.mem_map.1 h2
          have hkh := (hin a ha).2.2.2.1 hab.1 k hk
          exact hab.2 (kl_trans (hcv k hke.symm) hkh)
        · simp only [List.mem_singleton] at h2
          unfold En1 at h2 hcv
          rw [if_pos hab.1] at h2
          exact hab.2 (hcv _ h2)
      · rw [List.getElem?_append_left (by rw [List.length_append, hq]; show _ < q + (endsOf n).length; omega), List.getElem?_append_right (by omega), hq] at e3
        obtain ⟨x, hx, hxx⟩ := hlow (j - q) (show j - q < kix n.keys key by omega)
        have e3 : (endsOf n)[j - q]? = some (En1 d.2) := e3
        rw [hx] at e3
        injection e3 with e3
        exact hxx (hcv x e3.symm)
    · cases hj
end Go.Proofs.YtfplnobnmgbgoaaDoor
namespace Go.Proofs.YtfplnobnmgbgoaaDoor
open Go.RowKit Go.Lib
set_option linter.unusedVariables false
set_option maxRecDepth 20000
set_option linter.unusedSimpArgs false

/-- A node below is changed for another one that ends alike. -/
theorem Lev.keep {up D1 D2 : List (Hn × Nd)} {k : Hn} {c c2 : Nd} (h : Lev up (D1 ++ (k, c) :: D2)) (he : En1 c2 = En1 c) : Lev up (D1 ++ (k, c2) :: D2) := by
  refine ⟨?_, ?_, h.inner⟩
  · rw [h.ends, List.map_append, List.map_append, List.map_cons, List.map_cons]
    simp only [he]
  · rw [h.kids, List.map_append, List.map_append, List.map_cons, List.map_cons]
/-- A node above is changed for another one with the same keys' ends and kids. -/
theorem Lev.keepUp {A B down : List (Hn × Nd)} {k : Hn} {n m : Nd} (h : Lev (A ++ (k, n) :: B) down) (he : endsOf m = endsOf n) (hk : m.kids = n.kids) (hi : m.leaf = false ∧ NdRight m) : Lev (A ++ (k, m) :: B) down := by
  refine ⟨?_, ?_, fun x hx => ?_⟩
  · rw [← h.ends, rows_kids, rows_kids]
    simp only [he]
  · rw [← h.kids, rows_kids, rows_kids]
    simp only [hk]
  · rcases List.mem_append.1 hx with h1 | h1
    · exact h.inner x (List.mem_append.2 (.inl h1))
    · rcases List.mem_cons.1 h1 with h1 | h1
      · rw [h1]; exact hi
      · exact h.inner x (List.mem_append.2 (.inr (List.mem_cons_of_mem _ h1)))
theorem cut_at {α : Type} {P Q R S : List α} {M N : List α} (h : P ++ M ++ Q = R ++ N ++ S) (h1 : P.length = R.length) (h2 : M.length = N.length) : P = R ∧ M = N ∧ Q = S := by
  obtain ⟨e1, e2⟩ := List.append_inj h (by rw [List.length_append, List.length_append, h1, h2])
  obtain ⟨e3, e4⟩ := List.append_inj e1 h1
  exact ⟨e3, e4, e2⟩
/-- A node below is split, and its right half's handle put behind it above. -/
theorem Lev.split {A B D1 D2 : List (Hn × Nd)} {h k r : Hn} {n m c x y : Nd} {sep : ByteArray} {i : Nat} (hL : Lev (A ++ (h, n) :: B) (D1 ++ (k, c) :: D2)) (hi : i ≤ n.keys.length) (hD : D1.length = (A.flatMap fun x => endsOf x.2).length + i)
    (hx : En1 x = some sep) (hy : En1 y = En1 c) (hmk : m.keys = ins n.keys i sep) (hmd : m.kids = ins n.kids (i + 1) r) (hme : En1 m = En1 n) (hm : m.leaf = false ∧ NdRight m) : Lev (A ++ (h, m) :: B) (D1 ++ (k, x) :: (r, y) :: D2) := by
  have hn := hL.inner (h, n) (by simp)
  have hin : ∀ x ∈ A, x.2.leaf = false ∧ NdRight x.2 := fun x hx => hL.inner x (List.mem_append.2 (.inl hx))
  have hkl : n.kids.length = n.keys.length + 1 := (hn.2.2.2.2.2 hn.1).2
  have hel : (endsOf n).length = n.keys.length + 1 := by unfold endsOf; simp
  have hlen := lev_len hin
  have e1 := hL.ends
  have e2 := hL.kids
  rw [rows_kids, List.map_append, List.map_cons] at e1 e2
  -- the ends ahead, at the node, behind
  have s1 : endsOf n = (endsOf n).take i ++ [En1 c] ++ (endsOf n).drop (i + 1) ∧ A.flatMap (fun x => endsOf x.2) ++ (endsOf n).take i = D1.map (fun x => En1 x.2) ∧ (endsOf n).drop (i + 1) ++ B.flatMap (fun x => endsOf x.2) = D2.map fun x => En1 x.2 := by
    have hsp : endsOf n = (endsOf n).take i ++ (endsOf n)[i]'(by omega) :: (endsOf n).drop (i + 1) := by rw [List.getElem_cons_drop, List.take_append_drop]
    have e3 : (A.flatMap (fun x => endsOf x.2) ++ (endsOf n).take i) ++ [(endsOf n)[i]'(by omega)] ++ ((endsOf n).drop (i + 1) ++ B.flatMap fun x => endsOf x.2) = D1.map (fun x => En1 x.2) ++ [En1 c] ++ D2.map fun x => En1 x.2 := by
      simp only [List.append_assoc, List.singleton_append] at e1 ⊢
      rw [← e1]
      congr 1
      rw [← List.cons_append, ← List.append_assoc, ← hsp]
    obtain ⟨q1, q2, q3⟩ := cut_at e3 (by rw [List.length_append, List.length_take, List.length_map, hD]; omega) rfl
    injection q2 with q2
    refine ⟨?_, q1, q3⟩
    rw [← q2, List.append_assoc, List.singleton_append]
    exact hsp
  have s2 : A.flatMap (fun x => x.2.kids) ++ n.kids.take (i + 1) = D1.map Prod.fst ++ [k] ∧ n.kids.drop (i + 1) ++ B.flatMap (fun x => x.2.kids) = D2.map Prod.fst := by
    have e3 : (A.flatMap (fun x => x.2.kids) ++ n.kids.take (i + 1)) ++ [] ++ (n.kids.drop (i + 1) ++ B.flatMap fun x => x.2.kids) = (D1.map Prod.fst ++ [k]) ++ [] ++ D2.map Prod.fst := by
      simp only [List.append_assoc, List.append_nil, List.nil_append, List.singleton_append] at e2 ⊢
      rw [← e2]
      congr 1
      rw [← List.append_assoc, List.take_append_drop]
    obtain ⟨q1, _, q3⟩ := cut_at e3 (by rw [List.length_append, List.length_append, List.length_take, List.length_map, hD, hlen, List.length_singleton]; omega) rfl
    exact ⟨q1, q3⟩
  have hem : endsOf m = (endsOf n).take i ++ [some sep] ++ (endsOf n).drop i := by
    unfold endsOf
    rw [hmk, hme]
    unfold ins
    rw [List.map_append, List.map_cons, List.take_append_of_le_length (by simpa using hi), List.drop_append_of_le_length (by simpa using hi), List.map_take, List.map_drop]
    simp
  have hdr : (endsOf n).drop i = En1 c :: (endsOf n).drop (i + 1) := by
    have h1 : (endsOf n).drop i = (endsOf n)[i]'(by omega) :: (endsOf n).drop (i + 1) := by rw [List.getElem_cons_drop]
    have h2 := congrArg (List.drop i) s1.1
    rw [List.append_assoc, List.drop_left' (by rw [List.length_take]; omega)] at h2
    exact h2
  refine ⟨?_, ?_, fun z hz => ?_⟩
  · rw [rows_kids, List.map_append, List.map_cons, List.map_cons, ← s1.2.1, ← s1.2.2]
    show _ ++ endsOf m ++ _ = _ ++ _ ++ En1 x :: En1 y :: _
    rw [hem, hdr, hx, hy]
    simp
  · rw [rows_kids, List.map_append, List.map_cons, List.map_cons, ← s2.2]
    show _ ++ m.kids ++ _ = _ ++ k :: r :: _
    rw [hmd]
    unfold ins
    have : D1.map Prod.fst ++ k :: r :: (n.kids.drop (i + 1) ++ B.flatMap fun x => x.2.kids) = (D1.map Prod.fst ++ [k]) ++ r :: (n.kids.drop (i + 1) ++ B.flatMap fun x => x.2.kids) := by simp
    rw [this, ← s2.1]
    simp
  · rcases List.mem_append.1 hz with h1 | h1
    · exact hL.inner z (List.mem_append.2 (.inl h1))
    · rcases List.mem_cons.1 h1 with h1 | h1
      · rw [h1]; exact hm
      · exact hL.inner z (List.mem_append.2 (.inr (List.mem_cons_of_mem _ h1)))
/-- An inner node is split: what is below stays as it is. -/
theorem Lev.halves {A B down : List (Hn × Nd)} {h r : Hn} {n x y : Nd} (hL : Lev (A ++ (h, n) :: B) down) (he : endsOf x ++ endsOf y = endsOf n) (hk : x.kids ++ y.kids = n.kids) (hx : x.leaf = false ∧ NdRight x) (hy : y.leaf = false ∧ NdRight y) : Lev (A ++ (h, x) :: (r, y) :: B) down := by
  refine ⟨?_, ?_, fun z hz => ?_⟩
  · rw [← hL.ends, rows_kids, rows_kids, List.flatMap_cons]
    show _ ++ endsOf x ++ (endsOf y ++ _) = _ ++ endsOf n ++ _
    rw [← he]
    simp
  · rw [← hL.kids, rows_kids, rows_kids, List.flatMap_cons]
    show _ ++ x.kids ++ (y.kids ++ _) = _ ++ n.kids ++ _
    rw [← hk]
    simp
  · rcases List.mem_append.1 hz with h1 | h1
    · exact hL.inner z (List.mem_append.2 (.inl h1))
    · rcases List.mem_cons.1 h1 with h1 | h1
      · rw [h1]; exact hx
      · rcases List.mem_cons.1 h1 with h1 | h1
        · rw [h1]; exact hy
        · exact hL.inner z (List.mem_append.2 (.inr (List.mem_cons_of_mem _ h1)))
/-- A new root above two nodes. -/
theorem Lev.root {h k r : Hn} {n x y : Nd} {sep : ByteArray} (hx : En1 x = some sep) (hy : En1 y = none) (hk : n.keys = [sep]) (hd : n.kids = [k, r]) (he : En1 n = none) (hn : n.leaf = false ∧ NdRight n) : Lev [(h, n)] [(k, x), (r, y)] := by
  refine ⟨?_, ?_, fun z hz => ?_⟩
  · simp [endsOf, hk, he, hx, hy]
  · simp [hd]
  · simp at hz; rw [hz]; exact hn
end Go.Proofs.YtfplnobnmgbgoaaDoor
namespace Go.Proofs.YtfplnobnmgbgoaaDoor
open Go.RowKit Go.Lib
set_option linter.unusedVariables false
set_option maxRecDepth 20000
set_option linter.unusedSimpArgs false

/-- Each node's Next is its right neighbour. -/
def Nxs : List (Hn × Nd) → Prop
  | [] => True
  | [x] => x.2.nx = ⟨0, 0⟩
  | x :: y :: r => x.2.nx = y.1 ∧ Nxs (y :: r)
/-- The last node of a level has no end, all others have. -/
def Lst (ls : List (Hn × Nd)) : Prop := ∃ D k c, ls = D ++ [(k, c)] ∧ En1 c = none ∧ ∀ d ∈ D, En1 d.2 ≠ none
theorem ch_lst : ∀ {ls : List (Hn × Nd)} {lo : Option ByteArray}, Ch lo (ls.map Prod.snd) → Lst ls
  | [], _, h => h.elim
  | [(k, c)], _, h => ⟨[], k, c, rfl, by unfold En1; rw [if_neg (by rw [h.2]; decide)], fun d hd => by cases hd⟩
  | x :: y :: r, _, h => by
    obtain ⟨_, h2, h3⟩ := h
    obtain ⟨D, k, c, e, h4, h5⟩ := ch_lst (ls := y :: r) h3
    refine ⟨x :: D, k, c, by rw [e]; rfl, h4, fun d hd => ?_⟩
    rcases List.mem_cons.1 hd with e2 | e2
    · rw [e2]
      unfold En1
      rw [if_pos h2]
      intro h
      cases h
    · exact h5 d e2
theorem lev_last {up down : List (Hn × Nd)} (h : Lev up down) (hd : Lst down) : Lst up := by
  obtain ⟨D, k, c, rfl, h1, h2⟩ := hd
  have he := h.ends
  rw [List.map_append, List.map_cons, List.map_nil, h1] at he
  rcases List.eq_nil_or_concat up with e | ⟨U, x, e⟩
  · rw [e] at he
    simp at he
  · obtain ⟨hh, n⟩ := x
    have e : up = U ++ [(hh, n)] := by rw [e]; simp
    subst e
    rw [List.flatMap_append, List.flatMap_cons, List.flatMap_nil, List.append_nil] at he
    have he : (U.flatMap (fun x => endsOf x.2) ++ n.keys.map some) ++ [En1 n] = D.map (fun x => En1 x.2) ++ [none] := by
      rw [← he]
      show _ = _ ++ (n.keys.map some ++ [En1 n])
      rw [List.append_assoc]
    obtain ⟨e1, e2⟩ := List.append_inj' he rfl
    injection e2 with e2
    refine ⟨U, hh, n, rfl, e2, fun u hu hun => ?_⟩
    have hm : En1 u.2 ∈ D.map fun x => En1 x.2 := by
      rw [← e1]
      refine List.mem_append.2 (.inl (List.mem_flatMap.2 ⟨u, hu, ?_⟩))
      unfold endsOf
      simp
    obtain ⟨d, hd, hde⟩ := List.mem_map.1 hm
    exact h2 d hd (hde.trans hun)
/-- The levels, from the root to the leaves. -/
def Tower : List (List (Hn × Nd)) → Prop
  | [] => False
  | [ls] => Ch (some ⟨#[]⟩) (ls.map Prod.snd) ∧ Nxs ls
  | up :: down :: r => Lev up down ∧ Nxs up ∧ Tower (down :: r)
theorem tower_lst : ∀ {T : List (List (Hn × Nd))} {l : List (Hn × Nd)} {R : List (List (Hn × Nd))}, T = l :: R → Tower T → Lst l
  | [], _, _, e, _ => by cases e
  | [ls], _, _, e, h => by
    injection e with e1 e2
    subst e1
    exact ch_lst h.1
  | up :: down :: r, _, _, e, h => by
    injection e with e1 e2
    subst e1
    exact lev_last h.1 (tower_lst rfl h.2.2)
theorem tower_nxs {l : List (Hn × Nd)} {R : List (List (Hn × Nd))} (h : Tower (l :: R)) : Nxs l := by
  cases R with
  | nil => exact h.2
  | cons a r => exact h.2.1
theorem ch_leaf : ∀ {ls : List Nd} {lo : Option ByteArray}, Ch lo ls → ∀ n ∈ ls, n.leaf = true ∧ NdRight n
  | [], _, h, _, _ => h.elim
  | [n], _, h, m, hm => by
    simp at hm
    subst hm
    exact ⟨h.1.1, h.1.2.1⟩
  | n :: m :: r, _, h, x, hx => by
    rcases List.mem_cons.1 hx with e | e
    · rw [e]; exact ⟨h.1.1, h.1.2.1⟩
    · exact ch_leaf h.2.2 x e
/-- One step down: at a leaf's level there is none; else the kid is the first node below that covers the key. -/
theorem tower_down {A : List (Hn × Nd)} {h : Hn} {n : Nd} {B : List (Hn × Nd)} {R : List (List (Hn × Nd))} {key : ByteArray} (hT : Tower ((A ++ (h, n) :: B) :: R)) (hA : ∀ a ∈ A, ¬ NdCov a.2 key) (hc : NdCov n key) :
    NdRight n ∧ ((n.leaf = true ∧ R = []) ∨ (n.leaf = false ∧ ∃ A' kid c B' R', R = (A' ++ (kid, c) :: B') :: R' ∧ n.kids[kix n.keys key]? = some kid ∧ NdCov c key ∧ (∀ a ∈ A', ¬ NdCov a.2 key) ∧ A'.length = (A.flatMap fun x => endsOf x.2).length + kix n.keys key ∧ Lev (A ++ (h, n) :: B) (A' ++ (kid, c) :: B') ∧ Tower R)) := by
  cases R with
  | nil =>
    have := ch_leaf hT.1 n (by simp)
    exact ⟨this.2, .inl ⟨this.1, rfl⟩⟩
  | cons down r =>
    obtain ⟨hL, _, hr⟩ := hT
    have hi := hL.inner (h, n) (by simp)
    obtain ⟨D1, kid, c, D2, e, h1, h2, h3, h4⟩ := lev_down hL rfl hA hc
    exact ⟨hi.2, .inr ⟨hi.1, D1, kid, c, D2, r, by rw [e], h1, h2, h3, h4, by rw [← e]; exact hL, hr⟩⟩
theorem nxs_next : ∀ {A : List (Hn × Nd)} {h : Hn} {n : Nd} {y : Hn × Nd} {B : List (Hn × Nd)}, Nxs (A ++ (h, n) :: y :: B) → n.nx = y.1
  | [], _, _, _, _, h => h.1
  | [a], _, _, _, _, h => nxs_next (A := []) h.2
  | a :: b :: A, _, _, _, _, h => nxs_next (A := b :: A) h.2
theorem nxs_last : ∀ {A : List (Hn × Nd)} {h : Hn} {n : Nd}, Nxs (A ++ [(h, n)]) → n.nx = ⟨0, 0⟩
  | [], _, _, h => h
  | [a], _, _, h => nxs_last (A := []) h.2
  | a :: b :: A, _, _, h => nxs_last (A := b :: A) h.2
/-- A node that does not cover a key has a right neighbour. -/
theorem next_of {l : List (Hn × Nd)} (hl : Lst l) (hn : Nxs l) {A : List (Hn × Nd)} {h : Hn} {n : Nd} {B : List (Hn × Nd)} (e : l = A ++ (h, n) :: B) {key : ByteArray} (hc : ¬ NdCov n key) : ∃ y B', B = y :: B' ∧ n.nx = y.1 := by
  cases B with
  | nil =>
    exfalso
    obtain ⟨D, k, c, e2, h1, h2⟩ := hl
    rw [e] at e2
    obtain ⟨_, e4⟩ := List.append_inj' e2 rfl
    injection e4 with e4
    injection e4 with _ e4
    subst e4
    refine hc fun hb => ?_
    unfold En1 at h1
    rw [if_pos hb] at h1
    cases h1
  | cons y r =>
    rw [e] at hn
    exact ⟨y, r, rfl, nxs_next hn⟩
end Go.Proofs.YtfplnobnmgbgoaaDoor
