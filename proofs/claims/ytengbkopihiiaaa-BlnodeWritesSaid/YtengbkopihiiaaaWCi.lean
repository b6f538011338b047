/-
  Kid.
-/
import Derived.Test.YtengbkopihiiaaaWCf
namespace Go.Proofs.Ytengbkopihiiaaa
open Go.RowKit Go.Lib
set_option linter.unusedVariables false
set_option maxRecDepth 20000
set_option linter.unusedSimpArgs false

def KidRes (n : Nd) (key : ByteArray) (w : World) (e : Ending) (w' : World) : Prop := ∃ h is, e = .returned (.tuple #[.agg #[.int .i64 h.slot, .int .u64 h.gen], .bool is]) ∧ KidR n key h is ∧ Turn No w w'
theorem KidRes.of {n : Nd} {key : ByteArray} {w : World} {e : Ending} {w' : World} (h : Hn) (is : Bool) (h1 : e = .returned (.tuple #[.agg #[.int .i64 h.slot, .int .u64 h.gen], .bool is])) (h2 : KidR n key h is) (h3 : Turn No w w') : KidRes n key w e w' := ⟨h, is, h1, h2, h3⟩
theorem put2 {w : World} {g : Nat} {x0 x1 : Value} {t : TypeId} (h : At w g (.cells #[x0, x1] t (0, 0))) (y0 y1 : Value) : At ((w.setCell ⟨g, 0, none⟩ y0).setCell ⟨g, 1, none⟩ y1) g (.cells #[y0, y1] t (0, 0)) := by simpa using (h.set 0 y0).set 1 y1
theorem turn2 (w : World) (g : Nat) (y0 y1 : Value) : Turn (fun k => k = g) w ((w.setCell ⟨g, 0, none⟩ y0).setCell ⟨g, 1, none⟩ y1) := (Turn.set1 w g 0 y0).trans (Turn.set1 _ g 1 y1)
set_option maxRecDepth 100000 in
set_option maxHeartbeats 16000000 in
theorem kidN (leaf : Bool) (K V : List ByteArray) (D : List Hn) (high : ByteArray) (bnd : Bool) (sl ge : Int) (AK AV AD : Option Addr) (ck cv cd : Nat) (key : ByteArray) (w : World) (hin : Fits w leaf K V D high AK AV AD) :
    Calls Try.prog 15 #[.agg #[.bool leaf, .slice AK K.length ck, .slice AV V.length cv, .slice AD D.length cd, .string high, .bool bnd, .int .i64 sl, .int .u64 ge], .string key] w fun e w' => KidRes ⟨leaf, K, V, D, high, bnd, ⟨sl, ge⟩⟩ key w e w' := by
  have t1 : Turn No w (w.alloc (.cells #[.bool leaf, .slice AK K.length ck, .slice AV V.length cv, .slice AD D.length cd, .string high, .bool bnd, .int .i64 sl, .int .u64 ge] 29)) := (Turn.refl _ _).alloc _
  have t2 : Turn No (w.alloc (.cells #[.bool leaf, .slice AK K.length ck, .slice AV V.length cv, .slice AD D.length cd, .string high, .bool bnd, .int .i64 sl, .int .u64 ge] 29)) ((w.alloc (.cells #[.bool leaf, .slice AK K.length ck, .slice AV V.length cv, .slice AD D.length cd, .string high, .bool bnd, .int .i64 sl, .int .u64 ge] 29)).alloc (.cells #[.int .i64 0, .int .u64 0] 27)) := (Turn.refl _ _).alloc _
  have a1 := (At.new w (.cells #[.bool leaf, .slice AK K.length ck, .slice AV V.length cv, .slice AD D.length cd, .string high, .bool bnd, .int .i64 sl, .int .u64 ge] 29)).no t2
  have a2 := At.new (w.alloc (.cells #[.bool leaf, .slice AK K.length ck, .slice AV V.length cv, .slice AD D.length cd, .string high, .bool bnd, .int .i64 sl, .int .u64 ge] 29)) (.cells #[.int .i64 0, .int .u64 0] 27)
  rw [World.size_alloc] at a2
  have HB : Hid (Turn No w ((w.alloc (.cells #[.bool leaf, .slice AK K.length ck, .slice AV V.length cv, .slice AD D.length cd, .string high, .bool bnd, .int .i64 sl, .int .u64 ge] 29)).alloc (.cells #[.int .i64 0, .int .u64 0] 27)) ∧ At ((w.alloc (.cells #[.bool leaf, .slice AK K.length ck, .slice AV V.length cv, .slice AD D.length cd, .string high, .bool bnd, .int .i64 sl, .int .u64 ge] 29)).alloc (.cells #[.int .i64 0, .int .u64 0] 27)) w.heap.size (.cells #[.bool leaf, .slice AK K.length ck, .slice AV V.length cv, .slice AD D.length cd, .string high, .bool bnd, .int .i64 sl, .int .u64 ge] 29 (0, 0)) ∧ At ((w.alloc (.cells #[.bool leaf, .slice AK K.length ck, .slice AV V.length cv, .slice AD D.length cd, .string high, .bool bnd, .int .i64 sl, .int .u64 ge] 29)).alloc (.cells #[.int .i64 0, .int .u64 0] 27)) (w.heap.size + 1) (.cells #[.int .i64 0, .int .u64 0] 27 (0, 0)) ∧ True) := Lib.hid ⟨t1.trans t2, a1, a2, trivial⟩
  clear t1 t2 a1 a2
  have HR := Lib.hid hin
  have CT := Lib.hid fun (W : World) (t : Turn No w W) => takesP leaf K V D high bnd sl ge AK AV AD ck cv cd key W (HR.out.k.no t) (by have := hin.lk; omega)
  have CF := Lib.hid fun (W : World) (t : Turn No w W) => behindP leaf K V D high bnd sl ge AK AV AD ck cv cd key W (HR.out.k.no t) (by have := hin.lk; omega)
  obtain ⟨I, hI⟩ : ∃ x, plc K key + (if inK K key = true then 1 else 0) = x := ⟨_, rfl⟩
  rw [hI] at CF
  have HI := Lib.hid hI
  have hld := hin.ld
  clear hI hin
  go_enter Try.func15, Try.ntmps15
  go_upto_region 1 with fail
  generalize ((w.alloc (.cells #[.bool leaf, .slice AK K.length ck, .slice AV V.length cv, .slice AD D.length cd, .string high, .bool bnd, .int .i64 sl, .int .u64 ge] 29)).alloc (.cells #[.int .i64 0, .int .u64 0] 27)) = w1 at HB ⊢
  obtain ⟨g, hg⟩ : ∃ x, w.heap.size = x := ⟨_, rfl⟩
  rw [hg] at HB
  rw [hg]
  have HG := Lib.hid hg
  clear hg
  obtain ⟨c0, c1, c2, c3, c4, c5, c6, c7⟩ := at8 HB.out.2.1
  cases leaf with
  | true =>
    have HNO : Hid (KidR ⟨true, K, V, D, high, bnd, ⟨sl, ge⟩⟩ key ⟨0, 0⟩ false) := Lib.hid ⟨fun h => (by cases h.2.1), fun _ => ⟨rfl, rfl⟩⟩
    go_upto_region 2 with fail
    have k0 := (HB.out.2.2.1.no (Turn.refl No w1)).cell 0
    have k1 := (HB.out.2.2.1.no (Turn.refl No w1)).cell 1
    have z0 := (HB.out.2.2.1.no (Turn.refl No w1)).thawed 0
    have z1 := (HB.out.2.2.1.no (Turn.refl No w1)).thawed 1
    simp at k0 k1
    have HZ := Lib.hid (And.intro (put2 (HB.out.2.2.1.no (Turn.refl No w1)) (.int .i64 0) (.int .u64 0)) ((HB.out.1.trans (Turn.refl No w1)).then (turn2 _ (g + 1) (.int .i64 0) (.int .u64 0)) fun i hi e => by have := HG.out; omega))
    go_wp2_with fail
    generalize ((w1.setCell ⟨g + 1, 0, none⟩ (.int .i64 0)).setCell ⟨g + 1, 1, none⟩ (.int .u64 0)) = w9 at HZ ⊢
    (try simp only [Exit.inBlock, Exit.then])
    refine bodyPost_ret (results_cell11 rfl _ _ (g + 1) 27 _ (0, 0) _ (by rfl) HZ.out.1 Try.underlying27 (by kernel_rfl)) rfl ?_
    exact KidRes.of ⟨0, 0⟩ false rfl HNO.out HZ.out.2
  | false =>
    go_upto_if 13 with (go_at_call 39; (with_reducible refine (CT.out _ HB.out.1).mono ?_); rintro e w2 ⟨(_ | _), rfl, hb, ht⟩ <;> have H2 := Lib.hid (And.intro hb ht) <;> clear hb ht c0 c1 c2 c3 c4 c5 c6 c7)
    · have HNO : Hid (KidR ⟨false, K, V, D, high, bnd, ⟨sl, ge⟩⟩ key ⟨0, 0⟩ false) := Lib.hid ⟨fun h => (by have := H2.out.1.2 ⟨h.1, h.2.2⟩; cases this), fun _ => ⟨rfl, rfl⟩⟩
      go_upto_region 2 with fail
      have k0 := (HB.out.2.2.1.no H2.out.2).cell 0
      have k1 := (HB.out.2.2.1.no H2.out.2).cell 1
      have z0 := (HB.out.2.2.1.no H2.out.2).thawed 0
      have z1 := (HB.out.2.2.1.no H2.out.2).thawed 1
      simp at k0 k1
      have HZ := Lib.hid (And.intro (put2 (HB.out.2.2.1.no H2.out.2) (.int .i64 0) (.int .u64 0)) ((HB.out.1.trans H2.out.2).then (turn2 _ (g + 1) (.int .i64 0) (.int .u64 0)) fun i hi e => by have := HG.out; omega))
      go_wp2_with fail
      generalize ((w2.setCell ⟨g + 1, 0, none⟩ (.int .i64 0)).setCell ⟨g + 1, 1, none⟩ (.int .u64 0)) = w9 at HZ ⊢
      (try simp only [Exit.inBlock, Exit.then])
      refine bodyPost_ret (results_cell11 rfl _ _ (g + 1) 27 _ (0, 0) _ (by rfl) HZ.out.1 Try.underlying27 (by kernel_rfl)) rfl ?_
      exact KidRes.of ⟨0, 0⟩ false rfl HNO.out HZ.out.2
    · have HYE : Hid (RightP false K V.length D.length high bnd ∧ (bnd = true → kl key high)) := Lib.hid (by first | exact H2.out.1.1 rfl | exact H2.out.1.1 trivial)
      have hD : D.length = K.length + 1 := (HYE.out.1.2.2.2.2 rfl).2
      have hik : kix K key = I := by rw [kix_plc HYE.out.1.1, HI.out]
      have hil : I < D.length := by have := kix_le K key; omega
      obtain ⟨h, hh⟩ : ∃ h, D[I]? = some h := ⟨D[I], List.getElem?_eq_getElem hil⟩
      have HH : Hid (KidR ⟨false, K, V, D, high, bnd, ⟨sl, ge⟩⟩ key h true) := Lib.hid ⟨fun _ => ⟨rfl, by show D[kix K key]? = _; rw [hik]; exact hh⟩, fun hn => absurd ⟨HYE.out.1, rfl, HYE.out.2⟩ hn⟩
      have HHH := Lib.hid hh
      obtain ⟨b, o, hA, hx1, hx2⟩ := Row.hn HR.out.d hh
      clear hx1 hx2
      have HX : Hid (∀ W, Turn No w2 W → W.cell? ⟨b, o + I * 2, none⟩ = some (.int .i64 h.slot) ∧ W.cell? ⟨b, o + I * 2 + 1, none⟩ = some (.int .u64 h.gen)) := Lib.hid fun W t => by
        obtain ⟨b', o', hA', q0, q1⟩ := Row.hn (HR.out.d.no ((HB.out.1.trans H2.out.2).trans t)) HHH.out
        rw [hA] at hA'
        injection hA' with hA'
        injection hA' with e1 e2
        subst e1 e2
        exact ⟨q0, q1⟩
      subst hA
      have hq1 : (0 : Int) ≤ (I : Int) := by omega
      have hq2 : (I : Int) < (D.length : Int) := by omega
      have HC : Hid (∀ W, Turn No w2 W → At W g (.cells #[.bool false, .slice AK K.length ck, .slice AV V.length cv, .slice (some ⟨b, o, none⟩) D.length cd, .string high, .bool bnd, .int .i64 sl, .int .u64 ge] 29 (0, 0)) ∧ At W (g + 1) (.cells #[.int .i64 0, .int .u64 0] 27 (0, 0))) := Lib.hid fun W t => ⟨HB.out.2.1.no (H2.out.2.trans t), HB.out.2.2.1.no (H2.out.2.trans t)⟩
      clear hD hik hil hh CT
      go_upto_region 3 with fail
      have TD : Hid (Turn No w2 w2.drew) := Lib.hid (Turn.refl No w2).drew
      obtain ⟨c0, c1, c2, c3, c4, c5, c6, c7⟩ := at8 (HC.out _ TD.out).1
      go_region_law (go_simp; go_at_call 43; (with_reducible refine (CF.out _ ((HB.out.1.trans H2.out.2).trans TD.out)).mono ?_); rintro e w3 ⟨rfl, ht⟩; have H3 := Lib.hid (TD.out.trans ht); clear ht c0 c1 c2 c3 c4 c5 c6 c7; have c3 := (HC.out _ H3.out).1.cell 3; simp at c3; have k0 := (HC.out _ H3.out).2.cell 0; have k1 := (HC.out _ H3.out).2.cell 1; simp at k0 k1; have z0 := (HC.out _ H3.out).2.thawed 0; have z1 := (HC.out _ H3.out).2.thawed 1; obtain ⟨q0, q1⟩ := HX.out _ H3.out)
      all_goals
        have HZ := Lib.hid (And.intro (put2 (HC.out _ H3.out).2 (.int .i64 h.slot) (.int .u64 h.gen)) (((HB.out.1.trans H2.out.2).trans H3.out).then (turn2 _ (g + 1) (.int .i64 h.slot) (.int .u64 h.gen)) fun i hi e => by have := HG.out; omega))
        generalize ((w3.setCell ⟨g + 1, 0, none⟩ (.int .i64 h.slot)).setCell ⟨g + 1, 1, none⟩ (.int .u64 h.gen)) = w9 at HZ ⊢
        go_wp2_with fail
        (try simp only [Exit.inBlock, Exit.then])
        refine bodyPost_ret (results_cell11 rfl _ _ (g + 1) 27 _ (0, 0) _ (by rfl) HZ.out.1 Try.underlying27 (by kernel_rfl)) rfl ?_
        exact KidRes.of h true rfl HH.out HZ.out.2
end Go.Proofs.Ytengbkopihiiaaa
