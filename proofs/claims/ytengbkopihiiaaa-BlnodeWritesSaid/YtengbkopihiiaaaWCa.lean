/-
  keys.Compare, strings.Clone; what is read of a node: Covers, Full, Find, behind.
-/
import Derived.Test.YtengbkopihiiaaaShelf
import Derived.Test.YtengbkopihiiaaaWNs
namespace Go.Proofs.Ytengbkopihiiaaa
open Go.RowKit Go.Lib
set_option linter.unusedVariables false
set_option maxRecDepth 20000
set_option linter.unusedSimpArgs false

theorem at8 {w : World} {g : Nat} {v0 v1 v2 v3 v4 v5 v6 v7 : Value} {t : TypeId} {f : Nat × Nat} (h : At w g (.cells #[v0, v1, v2, v3, v4, v5, v6, v7] t f)) :
    w.cell? ⟨g, 0, none⟩ = some v0 ∧ w.cell? ⟨g, 1, none⟩ = some v1 ∧ w.cell? ⟨g, 2, none⟩ = some v2 ∧ w.cell? ⟨g, 3, none⟩ = some v3 ∧ w.cell? ⟨g, 4, none⟩ = some v4 ∧ w.cell? ⟨g, 5, none⟩ = some v5 ∧ w.cell? ⟨g, 6, none⟩ = some v6 ∧ w.cell? ⟨g, 7, none⟩ = some v7 :=
  ⟨h.cell 0, h.cell 1, h.cell 2, h.cell 3, h.cell 4, h.cell 5, h.cell 6, h.cell 7⟩
/-- strings.Clone -/
theorem clone_any (a : ByteArray) (h : Fit a) (w : World) : Calls Try.prog 40 #[.string a] w fun e w' => e = .returned (.string a) ∧ Turn No w w' := by
  have h' : a.size ≤ 281474976710656 := Nat.le_trans h (by decide)
  go_enter Try.func40, Try.ntmps40
  go_wp2_with (go_at_call 55; refine (Try.stringslite_Clone _ _ h').mono ?_; rintro e w' ⟨rfl, hb⟩)
  go_ret
  exact ⟨rfl, Turn.of_below hb⟩
/-- keys.Compare -/
theorem cmp_any (a b : ByteArray) (w : World) : Calls Try.prog 37 #[.string a, .string b] w fun e w' => e = .returned (.int .i64 (kcmp a b)) ∧ w' = w := by
  go_enter Try.func37, Try.ntmps37
  go_wp2_with (go_at_call 52; refine (Try.strings_Compare _ _ _).mono ?_; rintro e w' ⟨rfl, rfl⟩)
  go_ret
  exact ⟨rfl, rfl⟩
theorem kcmp_neg {a b : ByteArray} (h : kl a b) : kcmp a b = -1 := by
  have := kcmp_range a b
  unfold kl at h
  omega
theorem kcmp_eq (a : ByteArray) : kcmp a a = 0 := kcmp_zero.2 rfl
theorem kcmp_pos {a b : ByteArray} (h : kl b a) : kcmp a b = 1 := by rw [kcmp_anti, kcmp_neg h]; rfl
set_option maxHeartbeats 2000000 in
theorem coversP (leaf : Bool) (K V : List ByteArray) (D : List Hn) (high : ByteArray) (bnd : Bool) (sl ge : Int) (AK AV AD : Option Addr) (ck cv cd : Nat) (key : ByteArray) (w : World) :
    Calls Try.prog 26 #[.agg #[.bool leaf, .slice AK K.length ck, .slice AV V.length cv, .slice AD D.length cd, .string high, .bool bnd, .int .i64 sl, .int .u64 ge], .string key] w fun e w' => BRes (bnd = true → kl key high) w e w' := by
  have HB := Lib.hid (And.intro ((Turn.refl No w).alloc (.cells #[.bool leaf, .slice AK K.length ck, .slice AV V.length cv, .slice AD D.length cd, .string high, .bool bnd, .int .i64 sl, .int .u64 ge] 29)) (At.new w (.cells #[.bool leaf, .slice AK K.length ck, .slice AV V.length cv, .slice AD D.length cd, .string high, .bool bnd, .int .i64 sl, .int .u64 ge] 29)))
  obtain ⟨z, hz⟩ : ∃ z, kcmp key high = z := ⟨_, rfl⟩
  have CL := Lib.hid fun (W : World) => cmp_any key high W
  rw [hz] at CL
  have HZ := Lib.hid hz
  clear hz
  go_enter Try.func26, Try.ntmps26
  go_upto_region 1 with fail
  generalize w.alloc (.cells #[.bool leaf, .slice AK K.length ck, .slice AV V.length cv, .slice AD D.length cd, .string high, .bool bnd, .int .i64 sl, .int .u64 ge] 29) = w1 at HB ⊢
  generalize w.heap.size = g at HB ⊢
  have e4 := HB.out.2.cell 4
  have e5 := HB.out.2.cell 5
  simp at e4 e5
  cases bnd with
  | false =>
    go_wp2_with fail
    go_ret
    exact BRes.of true rfl ⟨fun _ h => by (cases h), fun _ => rfl⟩ HB.out.1
  | true =>
    go_wp2_with (go_at_call 37; (with_reducible refine (CL.out _).mono ?_); rintro e w2 ⟨rfl, rfl⟩)
    go_ret
    exact BRes.of (decide (z < 0)) rfl (by
      rw [decide_eq_true_iff, ← HZ.out]
      first | exact ⟨fun h _ => h, fun h => h rfl⟩ | exact Iff.rfl) HB.out.1
set_option maxHeartbeats 2000000 in
theorem fullP (leaf : Bool) (K V : List ByteArray) (D : List Hn) (high : ByteArray) (bnd : Bool) (sl ge : Int) (AK AV AD : Option Addr) (ck cv cd : Nat) (w : World) (hn : K.length ≤ 100000) :
    Calls Try.prog 27 #[.agg #[.bool leaf, .slice AK K.length ck, .slice AV V.length cv, .slice AD D.length cd, .string high, .bool bnd, .int .i64 sl, .int .u64 ge]] w fun e w' => BRes (4 < K.length) w e w' := by
  have HB := Lib.hid (And.intro ((Turn.refl No w).alloc (.cells #[.bool leaf, .slice AK K.length ck, .slice AV V.length cv, .slice AD D.length cd, .string high, .bool bnd, .int .i64 sl, .int .u64 ge] 29)) (At.new w (.cells #[.bool leaf, .slice AK K.length ck, .slice AV V.length cv, .slice AD D.length cd, .string high, .bool bnd, .int .i64 sl, .int .u64 ge] 29)))
  go_enter Try.func27, Try.ntmps27
  go_upto_region 1 with fail
  generalize w.alloc (.cells #[.bool leaf, .slice AK K.length ck, .slice AV V.length cv, .slice AD D.length cd, .string high, .bool bnd, .int .i64 sl, .int .u64 ge] 29) = w1 at HB ⊢
  generalize w.heap.size = g at HB ⊢
  have e1 := HB.out.2.cell 1
  simp at e1
  by_cases hk : 4 < K.length
  · have q : (4 : Int) < (K.length : Int) := by omega
    go_wp2_with fail
    go_ret
    exact BRes.of true rfl ⟨fun _ => by first | trivial | exact HK.out, fun _ => rfl⟩ HB.out.1
  · have q : ¬ (4 : Int) < (K.length : Int) := by omega
    have HK := Lib.hid hk
    clear hk
    go_wp2_with fail
    go_ret
    exact BRes.of false rfl ⟨fun h => by (cases h), fun h => by first | exact absurd h HK.out | exact h.elim⟩ HB.out.1
/-- What Find has seen behind i keys. -/
def Fd (w0 wr : World) (K : List ByteArray) (key : ByteArray) (i : Nat) (x y : Value) : Prop := Turn No w0 wr ∧ x = .int .i64 (plc (K.take i) key : Int) ∧ y = .bool (inK (K.take i) key)
set_option maxHeartbeats 4000000 in
theorem findP (leaf : Bool) (K V : List ByteArray) (D : List Hn) (high : ByteArray) (bnd : Bool) (sl ge : Int) (AK AV AD : Option Addr) (ck cv cd : Nat) (key : ByteArray) (w : World) (hK : Row w AK (kcs K)) (hn : K.length ≤ 100000) :
    Calls Try.prog 11 #[.agg #[.bool leaf, .slice AK K.length ck, .slice AV V.length cv, .slice AD D.length cd, .string high, .bool bnd, .int .i64 sl, .int .u64 ge], .string key] w fun e w' => e = .returned (.tuple #[.int .i64 (plc K key : Int), .bool (inK K key)]) ∧ Turn No w w' := by
  have HB := Lib.hid (And.intro ((Turn.refl No w).alloc (.cells #[.bool leaf, .slice AK K.length ck, .slice AV V.length cv, .slice AD D.length cd, .string high, .bool bnd, .int .i64 sl, .int .u64 ge] 29)) (At.new w (.cells #[.bool leaf, .slice AK K.length ck, .slice AV V.length cv, .slice AD D.length cd, .string high, .bool bnd, .int .i64 sl, .int .u64 ge] 29)))
  have HR := Lib.hid (hK.no HB.out.1)
  have CL := Lib.hid fun (a : ByteArray) (W : World) => cmp_any a key W
  clear hK
  go_enter Try.func11, Try.ntmps11
  go_upto_region 1 with fail
  generalize w.alloc (.cells #[.bool leaf, .slice AK K.length ck, .slice AV V.length cv, .slice AD D.length cd, .string high, .bool bnd, .int .i64 sl, .int .u64 ge] 29) = w1 at HB HR ⊢
  generalize w.heap.size = g at HB ⊢
  have e1 := HB.out.2.cell 1
  simp at e1
  go_wp2_with fail
  go_loopw [11, 4, 5] (fun a x y wr => ∃ i : Nat, i ≤ K.length ∧ a = .int .i64 (i : Int) ∧ x = .int .i64 (plc (K.take i) key : Int) ∧ y = .bool (inK (K.take i) key) ∧ Hid (Turn No w1 wr)) (fun a _ _ _ => K.length - (RowKit.intOf a).toNat)
  case atStart => exact ⟨0, Nat.zero_le _, rfl, rfl, rfl, Lib.hid (Turn.refl _ _)⟩
  case round =>
    obtain ⟨i, hi, rfl, rfl, rfl, HP⟩ := hrel
    by_cases hlt : i < K.length
    · obtain ⟨k, hk⟩ : ∃ t, K[i]? = some t := ⟨K[i], List.getElem?_eq_getElem hlt⟩
      obtain ⟨b, o, hB, hc⟩ := kcs_hold (HR.out.no HP.out) hk
      have x0 := hc wr (Turn.refl _ _)
      have HPS := Lib.hid (plc_snoc hk key)
      have HIS := Lib.hid (inK_snoc hk key)
      have HPL : Hid (plc (K.take i) key ≤ 100000) := Lib.hid (by have := plc_le (K.take i) key; rw [List.length_take] at this; omega)
      have CK := Lib.hid (CL.out k)
      subst hB
      clear hk hc
      have hq1 : (0 : Int) ≤ (i : Int) := by omega
      have hq2 : (i : Int) < (K.length : Int) := by omega
      obtain ⟨P, hP⟩ : ∃ x, plc (K.take i) key = x := ⟨_, rfl⟩
      obtain ⟨Q, hQ⟩ : ∃ x, inK (K.take i) key = x := ⟨_, rfl⟩
      rw [hP] at HPS HPL
      rw [hQ] at HIS
      rw [hP, hQ]
      clear hP hQ
      have hw : IntKind.i64.wrap ((P : Int) + 1) = (P : Int) + 1 := IntWalk.i64_in _ ⟨by have := HPL.out; omega, by have := HPL.out; omega⟩
      rcases kl_tri k key with h1 | h1 | h1
      · have HE : Hid (plc (K.take (i + 1)) key = P + 1 ∧ inK (K.take (i + 1)) key = Q) := Lib.hid ⟨by rw [HPS.out, if_pos h1], by rw [HIS.out, decide_eq_false (kl_ne h1), Bool.or_false]⟩
        rw [kcmp_neg h1] at CK
        clear h1
        go_wp2_with (go_at_call 37; (with_reducible refine (CK.out _).mono ?_); rintro e w2 ⟨rfl, rfl⟩)
        exact ⟨⟨i + 1, by omega, by go_num, by rw [HE.out.1]; go_num, by rw [HE.out.2], HP⟩, by simp [RowKit.intOf]; omega⟩
      · have HE : Hid (plc (K.take (i + 1)) key = P ∧ inK (K.take (i + 1)) key = true) := Lib.hid ⟨by rw [HPS.out, if_neg (h1 ▸ kl_irrefl _)]; rfl, by rw [HIS.out, decide_eq_true h1, Bool.or_true]⟩
        subst h1
        rw [kcmp_eq] at CK
        go_wp2_with (go_at_call 37; (with_reducible refine (CK.out _).mono ?_); rintro e w2 ⟨rfl, rfl⟩)
        exact ⟨⟨i + 1, by omega, by go_num, by rw [HE.out.1], by rw [HE.out.2], HP⟩, by simp [RowKit.intOf]; omega⟩
      · have HE : Hid (plc (K.take (i + 1)) key = P ∧ inK (K.take (i + 1)) key = Q) := Lib.hid ⟨by rw [HPS.out, if_neg (kl_asymm h1)]; rfl, by rw [HIS.out, decide_eq_false (fun e => kl_ne h1 e.symm), Bool.or_false]⟩
        rw [kcmp_pos h1] at CK
        clear h1
        go_wp2_with (go_at_call 37; (with_reducible refine (CK.out _).mono ?_); rintro e w2 ⟨rfl, rfl⟩)
        exact ⟨⟨i + 1, by omega, by go_num, by rw [HE.out.1], by rw [HE.out.2], HP⟩, by simp [RowKit.intOf]; omega⟩
    · obtain rfl : i = K.length := by omega
      have HT := Lib.hid (List.take_length (l := K))
      go_wp2_with fail
      go_ret2
      exact ⟨by rw [HT.out]; rfl, HB.out.1.trans HP.out⟩
set_option maxHeartbeats 2000000 in
theorem behindP (leaf : Bool) (K V : List ByteArray) (D : List Hn) (high : ByteArray) (bnd : Bool) (sl ge : Int) (AK AV AD : Option Addr) (ck cv cd : Nat) (key : ByteArray) (w : World) (hK : Row w AK (kcs K)) (hn : K.length ≤ 100000) :
    Calls Try.prog 43 #[.agg #[.bool leaf, .slice AK K.length ck, .slice AV V.length cv, .slice AD D.length cd, .string high, .bool bnd, .int .i64 sl, .int .u64 ge], .string key] w fun e w' => e = .returned (.int .i64 ((plc K key + if inK K key = true then 1 else 0 : Nat) : Int)) ∧ Turn No w w' := by
  have HB := Lib.hid (And.intro ((Turn.refl No w).alloc (.cells #[.bool leaf, .slice AK K.length ck, .slice AV V.length cv, .slice AD D.length cd, .string high, .bool bnd, .int .i64 sl, .int .u64 ge] 29)) (At.new w (.cells #[.bool leaf, .slice AK K.length ck, .slice AV V.length cv, .slice AD D.length cd, .string high, .bool bnd, .int .i64 sl, .int .u64 ge] 29)))
  have CF := Lib.hid (findP leaf K V D high bnd sl ge AK AV AD ck cv cd key _ (hK.no HB.out.1) hn)
  have HPL := plc_le K key
  obtain ⟨P, hP⟩ : ∃ x, plc K key = x := ⟨_, rfl⟩
  obtain ⟨Q, hQ⟩ : ∃ x, inK K key = x := ⟨_, rfl⟩
  rw [hP, hQ] at CF
  rw [hP, hQ]
  rw [hP] at HPL
  clear hK hP hQ
  go_enter Try.func43, Try.ntmps43
  go_upto_region 1 with fail
  generalize w.alloc (.cells #[.bool leaf, .slice AK K.length ck, .slice AV V.length cv, .slice AD D.length cd, .string high, .bool bnd, .int .i64 sl, .int .u64 ge] 29) = w1 at HB CF ⊢
  generalize w.heap.size = g at HB ⊢
  obtain ⟨c0, c1, c2, c3, c4, c5, c6, c7⟩ := at8 HB.out.2
  have hw : IntKind.i64.wrap ((P : Int) + 1) = (P : Int) + 1 := IntWalk.i64_in _ ⟨by omega, by omega⟩
  cases Q with
  | true =>
    go_wp2_with (go_at_call 11; (with_reducible refine CF.out.mono ?_); rintro e w2 ⟨rfl, ht⟩; have H2 := Lib.hid ht; clear ht)
    go_ret
    exact ⟨by go_num, HB.out.1.trans H2.out⟩
  | false =>
    go_wp2_with (go_at_call 11; (with_reducible refine CF.out.mono ?_); rintro e w2 ⟨rfl, ht⟩; have H2 := Lib.hid ht; clear ht)
    go_ret
    exact ⟨rfl, HB.out.1.trans H2.out⟩
end Go.Proofs.Ytengbkopihiiaaa
