/-
  Right, piece by piece; takes.
-/
import Derived.Test.YtengbkopihiiaaaWCa
namespace Go.Proofs.Ytengbkopihiiaaa
open Go.RowKit Go.Lib
set_option linter.unusedVariables false
set_option maxRecDepth 20000
set_option linter.unusedSimpArgs false

theorem cmpT (a b : ByteArray) (w : World) : Calls Try.prog 37 #[.string a, .string b] w fun e w' => e = .returned (.int .i64 (kcmp a b)) ∧ Turn No w w' := (cmp_any a b w).mono fun e w' h => ⟨h.1, h.2 ▸ Turn.refl _ _⟩
set_option maxHeartbeats 4000000 in
theorem risesP (leaf : Bool) (K V : List ByteArray) (D : List Hn) (high : ByteArray) (bnd : Bool) (sl ge : Int) (AK AV AD : Option Addr) (ck cv cd : Nat) (w : World) (hK : Row w AK (kcs K)) (hn : K.length ≤ 100000) :
    Calls Try.prog 49 #[.agg #[.bool leaf, .slice AK K.length ck, .slice AV V.length cv, .slice AD D.length cd, .string high, .bool bnd, .int .i64 sl, .int .u64 ge]] w fun e w' => BRes (Rk K) w e w' := by
  have HB := Lib.hid (And.intro ((Turn.refl No w).alloc (.cells #[.bool leaf, .slice AK K.length ck, .slice AV V.length cv, .slice AD D.length cd, .string high, .bool bnd, .int .i64 sl, .int .u64 ge] 29)) (At.new w (.cells #[.bool leaf, .slice AK K.length ck, .slice AV V.length cv, .slice AD D.length cd, .string high, .bool bnd, .int .i64 sl, .int .u64 ge] 29)))
  have HL := Lib.hid (hK.no HB.out.1)
  clear hK
  go_enter Try.func49, Try.ntmps49
  go_upto_region 1 with fail
  generalize w.alloc (.cells #[.bool leaf, .slice AK K.length ck, .slice AV V.length cv, .slice AD D.length cd, .string high, .bool bnd, .int .i64 sl, .int .u64 ge] 29) = w1 at HB HL ⊢
  generalize w.heap.size = g at HB ⊢
  have HCC : Hid (∀ W, Turn No w1 W → W.cell? ⟨g, 1, none⟩ = some (.slice AK K.length ck)) := Lib.hid fun W t => (HB.out.2.no t).cell 1
  go_wp2_with fail
  go_loopw [3] (fun x wr => ∃ j : Nat, 1 ≤ j ∧ (j ≤ K.length ∨ j = 1) ∧ x = .int .i64 (j : Int) ∧ Hid (Turn No w1 wr ∧ Rk (K.take j))) (fun x _ => K.length + 1 - (RowKit.intOf x).toNat)
  case atStart => exact ⟨1, Nat.le_refl _, .inr rfl, rfl, Lib.hid ⟨Turn.refl _ _, by cases K <;> simp [Rk]⟩⟩
  case round =>
    obtain ⟨j, hj1, hi, rfl, HP⟩ := hrel
    have e1 := HCC.out wr HP.out.1
    by_cases hlt : j < K.length
    · obtain ⟨x, hx⟩ : ∃ t, K[j - 1]? = some t := ⟨K[j - 1]'(by omega), List.getElem?_eq_getElem (by omega)⟩
      obtain ⟨y, hy⟩ : ∃ t, K[j]? = some t := ⟨K[j], List.getElem?_eq_getElem hlt⟩
      obtain ⟨b, o, hB, hc⟩ := kcs_hold (HL.out.no HP.out.1) hx
      obtain ⟨b2, o2, hB2, hc2⟩ := kcs_hold (HL.out.no HP.out.1) hy
      rw [hB] at hB2
      injection hB2 with hB2
      injection hB2 with e1 e2
      subst e1 e2
      have HRK : Hid (Rk (K.take (j + 1)) ↔ kl x y) := Lib.hid (by
        have h1 := HP.out.2
        have e : j - 1 + 1 = j := by omega
        rw [← e] at h1 hy ⊢
        exact rk_last h1 hx hy)
      have HNR : Hid (Rk K → Rk (K.take (j + 1))) := Lib.hid fun h => rk_take h _
      obtain ⟨z, hz⟩ : ∃ z, kcmp x y = z := ⟨_, rfl⟩
      have CL := Lib.hid fun (W : World) => cmpT x y W
      rw [hz] at CL
      have HZ := Lib.hid hz
      clear hz
      have hS1 : Hid (∀ W, Turn No wr W → W.cell? ⟨b, o + (j - 1), none⟩ = some (.string x) ∧ W.cell? ⟨b, o + j, none⟩ = some (.string y) ∧ W.cell? ⟨g, 1, none⟩ = some (.slice AK K.length ck)) := Lib.hid fun W t => ⟨hc W t, hc2 W t, HCC.out W (HP.out.1.trans t)⟩
      have TD : Hid (Turn No wr wr.drew) := Lib.hid (Turn.refl No wr).drew
      subst hB
      have hS0 := hS1.out _ TD.out
      clear hx hy hc hc2
      have hq1 : (0 : Int) ≤ (j : Int) - 1 := by omega
      have hq2 : (j : Int) - 1 < (K.length : Int) := by omega
      have hq3 : (j : Int) < (K.length : Int) := by omega
      have hq4 : (0 : Int) ≤ (j : Int) := by omega
      have hq5 : ((j : Int) - 1).toNat = j - 1 := by omega
      have hq6 : IntKind.i64.wrap ((j : Int) - 1) = (j : Int) - 1 := IntWalk.i64_in _ ⟨by omega, by omega⟩
      have hq7 : (1 : Int) ≤ (j : Int) := by omega
      have hq8 : (j : Int) < (K.length : Int) + 1 := by omega
      go_upto_region 4 with fail
      clear e1
      go_cut [23] from 11 to 23 (fun s wx => ∃ bb : Bool, s = .bool bb ∧ Hid ((bb = false ↔ kl x y) ∧ Turn No wr wx))
      case first =>
        go_region_held3 (fun W => W.cell? ⟨b, o + (j - 1), none⟩ = some (.string x) ∧ W.cell? ⟨b, o + j, none⟩ = some (.string y) ∧ W.cell? ⟨g, 1, none⟩ = some (.slice (some ⟨b, o, none⟩) K.length ck)) (first | (with_reducible exact hS0) | (with_reducible exact hS1.out _ HY.out)) (first | (go_at_call 37; (with_reducible refine (CL.out _).mono ?_); rintro e wy ⟨rfl, hy⟩; have HY := Lib.hid (TD.out.trans hy); clear hy))
        go_wp2_with fail
        go_meet
        exact ⟨decide (0 ≤ z), rfl, Lib.hid ⟨by unfold kl; rw [HZ.out, decide_eq_false_iff_not]; omega, HY.out⟩⟩
      case rest =>
        obtain ⟨bb, rfl, HY⟩ := hcut
        generalize wc = wy at HY ⊢
        clear hS0 hS1 CL TD hq1 hq2 hq5 hq6 hq7 hq8
        cases bb with
        | false =>
          have HX : Hid (Rk (K.take (j + 1))) := Lib.hid (HRK.out.2 (by first | exact HY.out.1.1 rfl | exact HY.out.1.1 trivial))
          go_wp2_with fail
          exact ⟨⟨j + 1, by omega, .inl (by omega), by go_num, Lib.hid ⟨HP.out.1.trans HY.out.2, HX.out⟩⟩, by simp [RowKit.intOf]; omega⟩
        | true =>
          have HX : Hid (¬ Rk K) := Lib.hid fun h => by have := HY.out.1.2 (HRK.out.1 (HNR.out h)); cases this
          go_wp2_with fail
          go_ret
          exact BRes.of false rfl ⟨fun h => by (cases h), fun h => absurd h HX.out⟩ ((HB.out.1.trans HP.out.1).trans HY.out.2)
    · have HX : Hid (Rk K) := Lib.hid (by have h := HP.out.2; rwa [List.take_of_length_le (by omega)] at h)
      have hq3 : ¬ (j : Int) < (K.length : Int) := by omega
      go_wp2_with fail
      go_ret
      exact BRes.of true rfl ⟨fun _ => HX.out, fun _ => rfl⟩ (HB.out.1.trans HP.out.1)
def FillP (leaf : Bool) (nk nv nd : Nat) : Prop := (leaf = true → nv = nk ∧ nd = 0) ∧ (leaf = false → nv = 0 ∧ nd = nk + 1)
set_option maxHeartbeats 4000000 in
theorem filledP (leaf : Bool) (K V : List ByteArray) (D : List Hn) (high : ByteArray) (bnd : Bool) (sl ge : Int) (AK AV AD : Option Addr) (ck cv cd : Nat) (w : World) (hn : K.length ≤ 100000) :
    Calls Try.prog 50 #[.agg #[.bool leaf, .slice AK K.length ck, .slice AV V.length cv, .slice AD D.length cd, .string high, .bool bnd, .int .i64 sl, .int .u64 ge]] w fun e w' => BRes (FillP leaf K.length V.length D.length) w e w' := by
  have HB := Lib.hid (And.intro ((Turn.refl No w).alloc (.cells #[.bool leaf, .slice AK K.length ck, .slice AV V.length cv, .slice AD D.length cd, .string high, .bool bnd, .int .i64 sl, .int .u64 ge] 29)) (At.new w (.cells #[.bool leaf, .slice AK K.length ck, .slice AV V.length cv, .slice AD D.length cd, .string high, .bool bnd, .int .i64 sl, .int .u64 ge] 29)))
  obtain ⟨nk, hk⟩ : ∃ x, K.length = x := ⟨_, rfl⟩
  obtain ⟨nv, hv⟩ : ∃ x, V.length = x := ⟨_, rfl⟩
  obtain ⟨nd, hd⟩ : ∃ x, D.length = x := ⟨_, rfl⟩
  rw [hk, hv, hd] at HB
  rw [hk] at hn
  rw [hk, hv, hd]
  clear hk hv hd
  have hw : IntKind.i64.wrap ((nk : Int) + 1) = (nk : Int) + 1 := IntWalk.i64_in _ ⟨by omega, by omega⟩
  go_enter Try.func50, Try.ntmps50
  go_upto_region 1 with fail
  generalize w.alloc (.cells #[.bool leaf, .slice AK nk ck, .slice AV nv cv, .slice AD nd cd, .string high, .bool bnd, .int .i64 sl, .int .u64 ge] 29) = w1 at HB ⊢
  generalize w.heap.size = g at HB ⊢
  have e0 := HB.out.2.cell 0
  have e1 := HB.out.2.cell 1
  have e2 := HB.out.2.cell 2
  have e3 := HB.out.2.cell 3
  simp at e0 e1 e2 e3
  have TW := Lib.hid HB.out.1
  cases leaf with
  | true =>
    by_cases h1 : nv = nk
    · subst h1
      by_cases h2 : nd = 0
      · subst h2
        go_wp2_with fail
        go_ret
        exact BRes.of true rfl ⟨fun _ => ⟨fun _ => ⟨rfl, rfl⟩, fun h => by (cases h)⟩, fun _ => rfl⟩ TW.out
      · have HF : Hid (¬ FillP true nv nv nd) := Lib.hid fun h => h2 (h.1 rfl).2
        have q2 : ((nd : Int) == 0) = false := by simp; omega
        go_wp2_with fail
        go_ret
        exact BRes.of false rfl ⟨fun h => by (cases h), fun h => absurd h HF.out⟩ TW.out
    · have HF : Hid (¬ FillP true nk nv nd) := Lib.hid fun h => h1 (h.1 rfl).1
      have q2 : ((nv : Int) == (nk : Int)) = false := by simp; omega
      go_wp2_with fail
      go_ret
      exact BRes.of false rfl ⟨fun h => by (cases h), fun h => absurd h HF.out⟩ TW.out
  | false =>
    by_cases h1 : nv = 0
    · subst h1
      by_cases h2 : nd = nk + 1
      · subst h2
        have q2 : (((nk + 1 : Nat) : Int) == (nk : Int) + 1) = true := by simp
        go_wp2_with fail
        go_ret
        exact BRes.of true rfl ⟨fun _ => ⟨fun h => by (cases h), fun _ => ⟨rfl, rfl⟩⟩, fun _ => rfl⟩ TW.out
      · have HF : Hid (¬ FillP false nk 0 nd) := Lib.hid fun h => h2 (h.2 rfl).2
        have q2 : ((nd : Int) == (nk : Int) + 1) = false := by simp; omega
        go_wp2_with fail
        go_ret
        exact BRes.of false rfl ⟨fun h => by (cases h), fun h => absurd h HF.out⟩ TW.out
    · have HF : Hid (¬ FillP false nk nv nd) := Lib.hid fun h => h1 (h.2 rfl).1
      have q2 : ((nv : Int) == 0) = false := by simp; omega
      go_wp2_with fail
      go_ret
      exact BRes.of false rfl ⟨fun h => by (cases h), fun h => absurd h HF.out⟩ TW.out
/-- isWithin's own function: is a key not covered? -/
theorem within1P (leaf : Bool) (K V : List ByteArray) (D : List Hn) (high : ByteArray) (bnd : Bool) (sl ge : Int) (AK AV AD : Option Addr) (ck cv cd : Nat) (key : ByteArray) (g : Nat) (w : World) (h : At w g (.cells #[.bool leaf, .slice AK K.length ck, .slice AV V.length cv, .slice AD D.length cd, .string high, .bool bnd, .int .i64 sl, .int .u64 ge] 29 (0, 0))) :
    Calls Try.prog 61 #[.string key, .pointer (some ⟨g, 0, none⟩)] w fun e w' => BRes (¬ (bnd = true → kl key high)) w e w' := by
  have HA := Lib.hid h
  have CC := Lib.hid (coversP leaf K V D high bnd sl ge AK AV AD ck cv cd key w)
  clear h
  go_enter Try.func61, Try.ntmps61
  obtain ⟨c0, c1, c2, c3, c4, c5, c6, c7⟩ := at8 HA.out
  go_wp2_with (go_at_call 26; (with_reducible refine CC.out.mono ?_); rintro e w2 ⟨bb, rfl, hb, ht⟩; have H2 := Lib.hid (And.intro hb ht); clear hb ht)
  go_ret
  refine BRes.of (!bb) rfl ?_ H2.out.2
  rw [← H2.out.1]
  cases bb <;> simp
set_option maxHeartbeats 4000000 in
theorem indexP (leaf : Bool) (K V : List ByteArray) (D : List Hn) (high : ByteArray) (bnd : Bool) (sl ge : Int) (AK AV AD : Option Addr) (ck cv cd : Nat) (g : Nat) (w : World) (h : At w g (.cells #[.bool leaf, .slice AK K.length ck, .slice AV V.length cv, .slice AD D.length cd, .string high, .bool bnd, .int .i64 sl, .int .u64 ge] 29 (0, 0))) (hK : Row w AK (kcs K)) (hn : K.length ≤ 100000) :
    Calls Try.prog 66 #[.slice AK K.length ck, .func (.func 61) #[] #[.pointer (some ⟨g, 0, none⟩)]] w fun e w' => ∃ i : Int, e = .returned (.int .i64 i) ∧ (i = -1 ∨ 0 ≤ i) ∧ (i = -1 ↔ ∀ k ∈ K, bnd = true → kl k high) ∧ Turn No w w' := by
  have HA := Lib.hid (And.intro h hK)
  clear h hK
  go_enter Try.func66, Try.ntmps66
  go_wp2_with fail
  go_loopw [8] (fun i wr => ∃ kk : Nat, kk ≤ K.length ∧ i = .int .i64 (kk : Int) ∧ Hid (Turn No w wr ∧ ∀ k ∈ K.take kk, bnd = true → kl k high)) (fun i _ => K.length - (RowKit.intOf i).toNat)
  case atStart => exact ⟨0, Nat.zero_le _, rfl, Lib.hid ⟨Turn.refl _ _, by simp⟩⟩
  case round =>
    obtain ⟨kk, hm, rfl, HP⟩ := hrel
    by_cases hlt : kk < K.length
    · obtain ⟨k, hk⟩ : ∃ p, K[kk]? = some p := ⟨K[kk], List.getElem?_eq_getElem hlt⟩
      obtain ⟨b, o, hB, hc⟩ := kcs_hold (HA.out.2.no HP.out.1) hk
      have x0 := hc wr (Turn.refl _ _)
      have CC := Lib.hid (within1P leaf K V D high bnd sl ge AK AV AD ck cv cd k g wr (HA.out.1.no HP.out.1))
      have HM := Lib.hid (List.mem_of_getElem? hk)
      have HS := Lib.hid (all_snoc (Q := fun k => bnd = true → kl k high) hk)
      subst hB
      clear hk hc
      have hq1 : (0 : Int) ≤ (kk : Int) := by omega
      have hq2 : (kk : Int) < (K.length : Int) := by omega
      go_wp2_with (go_at_call 61; (with_reducible refine CC.out.mono ?_); rintro e w2 ⟨(_ | _), rfl, hb, ht⟩ <;> have H2 := Lib.hid (And.intro hb ht) <;> clear hb ht)
      · exact ⟨⟨kk + 1, by omega, by go_num, Lib.hid ⟨HP.out.1.trans H2.out.2, HS.out.2 ⟨HP.out.2, Decidable.not_not.1 fun h => by have := H2.out.1.2 h; cases this⟩⟩⟩, by simp [RowKit.intOf]; omega⟩
      · go_ret
        exact ⟨kk, rfl, .inr (by omega), ⟨fun h => by omega, fun h => absurd (h k HM.out) (by first | exact H2.out.1.1 rfl | exact H2.out.1.1 trivial)⟩, HP.out.1.trans H2.out.2⟩
    · obtain rfl : kk = K.length := by omega
      have HT := HP.out.2
      rw [List.take_length] at HT
      have HT := Lib.hid HT
      go_wp2_with fail
      go_ret
      exact ⟨-1, rfl, .inl rfl, ⟨fun _ => HT.out, fun _ => rfl⟩, HP.out.1⟩
set_option maxHeartbeats 4000000 in
theorem containsP (leaf : Bool) (K V : List ByteArray) (D : List Hn) (high : ByteArray) (bnd : Bool) (sl ge : Int) (AK AV AD : Option Addr) (ck cv cd : Nat) (g : Nat) (w : World) (h : At w g (.cells #[.bool leaf, .slice AK K.length ck, .slice AV V.length cv, .slice AD D.length cd, .string high, .bool bnd, .int .i64 sl, .int .u64 ge] 29 (0, 0))) (hK : Row w AK (kcs K)) (hn : K.length ≤ 100000) :
    Calls Try.prog 60 #[.slice AK K.length ck, .func (.func 61) #[] #[.pointer (some ⟨g, 0, none⟩)]] w fun e w' => BRes (¬ ∀ k ∈ K, bnd = true → kl k high) w e w' := by
  have CI := Lib.hid (indexP leaf K V D high bnd sl ge AK AV AD ck cv cd g w h hK hn)
  clear h hK
  go_enter Try.func60, Try.ntmps60
  go_wp2_with (go_at_call 66; (with_reducible refine CI.out.mono ?_); rintro e w2 ⟨i, rfl, h1, h2, ht⟩; have H2 := Lib.hid (And.intro h1 (And.intro h2 ht)); clear h1 h2 ht)
  go_ret
  refine BRes.of (decide (0 ≤ i)) rfl ?_ H2.out.2.2
  rw [← H2.out.2.1, decide_eq_true_iff]
  have := H2.out.1
  omega
def WinP (K : List ByteArray) (high : ByteArray) (bnd : Bool) : Prop := (bnd = false → high = ⟨#[]⟩) ∧ (bnd = true → ∀ k ∈ K, kl k high)
set_option maxHeartbeats 4000000 in
theorem withinP (leaf : Bool) (K V : List ByteArray) (D : List Hn) (high : ByteArray) (bnd : Bool) (sl ge : Int) (AK AV AD : Option Addr) (ck cv cd : Nat) (w : World) (hK : Row w AK (kcs K)) (hn : K.length ≤ 100000) :
    Calls Try.prog 51 #[.agg #[.bool leaf, .slice AK K.length ck, .slice AV V.length cv, .slice AD D.length cd, .string high, .bool bnd, .int .i64 sl, .int .u64 ge]] w fun e w' => BRes (WinP K high bnd) w e w' := by
  have HB := Lib.hid (And.intro ((Turn.refl No w).alloc (.cells #[.bool leaf, .slice AK K.length ck, .slice AV V.length cv, .slice AD D.length cd, .string high, .bool bnd, .int .i64 sl, .int .u64 ge] 29)) (At.new w (.cells #[.bool leaf, .slice AK K.length ck, .slice AV V.length cv, .slice AD D.length cd, .string high, .bool bnd, .int .i64 sl, .int .u64 ge] 29)))
  have CC := Lib.hid (containsP leaf K V D high bnd sl ge AK AV AD ck cv cd _ _ HB.out.2 (hK.no HB.out.1) hn)
  clear hK
  go_enter Try.func51, Try.ntmps51
  go_upto_region 1 with fail
  generalize w.alloc (.cells #[.bool leaf, .slice AK K.length ck, .slice AV V.length cv, .slice AD D.length cd, .string high, .bool bnd, .int .i64 sl, .int .u64 ge] 29) = w1 at HB CC ⊢
  generalize w.heap.size = g at HB CC ⊢
  have e1 := HB.out.2.cell 1
  have e4 := HB.out.2.cell 4
  have e5 := HB.out.2.cell 5
  simp at e1 e4 e5
  have TW := Lib.hid HB.out.1
  cases bnd with
  | false =>
    have qe := emp_dec high
    go_wp2_with fail
    go_ret
    refine BRes.of (decide (high = ⟨#[]⟩)) (by first | rfl | (rw [← emp_dec]; rfl) | (rw [← bytes_beq]; rfl)) ?_ TW.out
    rw [decide_eq_true_iff]
    exact ⟨fun h => ⟨fun _ => h, fun h => by (cases h)⟩, fun h => h.1 rfl⟩
  | true =>
    go_wp2_with (go_at_call 60; (with_reducible refine CC.out.mono ?_); rintro e w2 ⟨bb, rfl, hb, ht⟩; have H2 := Lib.hid (And.intro hb ht); clear hb ht)
    go_ret
    refine BRes.of (!bb) rfl ?_ (TW.out.trans H2.out.2)
    have h := H2.out.1
    unfold WinP
    cases bb with
    | true => exact ⟨fun h => by (cases h), fun h2 => absurd (fun k hk hb => h2.2 rfl k hk) (h.1 rfl)⟩
    | false => exact ⟨fun _ => ⟨fun h => by (cases h), fun _ k hk => Decidable.by_contra fun hn => by have := h.2 (fun h3 => hn (by first | exact h3 k hk rfl | exact h3 k hk trivial)); cases this⟩, fun _ => rfl⟩
theorem rightP_of {leaf : Bool} {K : List ByteArray} {nv nd : Nat} {high : ByteArray} {bnd : Bool} : RightP leaf K nv nd high bnd ↔ Rk K ∧ FillP leaf K.length nv nd ∧ WinP K high bnd :=
  ⟨fun ⟨a, b, c, d, e⟩ => ⟨a, ⟨d, e⟩, b, c⟩, fun ⟨a, ⟨d, e⟩, b, c⟩ => ⟨a, b, c, d, e⟩⟩
set_option maxHeartbeats 4000000 in
theorem rightQ (leaf : Bool) (K V : List ByteArray) (D : List Hn) (high : ByteArray) (bnd : Bool) (sl ge : Int) (AK AV AD : Option Addr) (ck cv cd : Nat) (w : World) (hK : Row w AK (kcs K)) (hn : K.length ≤ 100000) :
    Calls Try.prog 25 #[.agg #[.bool leaf, .slice AK K.length ck, .slice AV V.length cv, .slice AD D.length cd, .string high, .bool bnd, .int .i64 sl, .int .u64 ge]] w fun e w' => BRes (RightP leaf K V.length D.length high bnd) w e w' := by
  have HB := Lib.hid (And.intro ((Turn.refl No w).alloc (.cells #[.bool leaf, .slice AK K.length ck, .slice AV V.length cv, .slice AD D.length cd, .string high, .bool bnd, .int .i64 sl, .int .u64 ge] 29)) (At.new w (.cells #[.bool leaf, .slice AK K.length ck, .slice AV V.length cv, .slice AD D.length cd, .string high, .bool bnd, .int .i64 sl, .int .u64 ge] 29)))
  have HR := Lib.hid (hK.no HB.out.1)
  clear hK
  go_enter Try.func25, Try.ntmps25
  go_upto_region 1 with fail
  generalize w.alloc (.cells #[.bool leaf, .slice AK K.length ck, .slice AV V.length cv, .slice AD D.length cd, .string high, .bool bnd, .int .i64 sl, .int .u64 ge] 29) = w1 at HB HR ⊢
  generalize w.heap.size = g at HB ⊢
  have CI := Lib.hid fun (W : World) (t : Turn No w1 W) => risesP leaf K V D high bnd sl ge AK AV AD ck cv cd W (HR.out.no t) hn
  have CF := Lib.hid fun (W : World) (t : Turn No w1 W) => filledP leaf K V D high bnd sl ge AK AV AD ck cv cd W hn
  have CW := Lib.hid fun (W : World) (t : Turn No w1 W) => withinP leaf K V D high bnd sl ge AK AV AD ck cv cd W (HR.out.no t) hn
  obtain ⟨c0, c1, c2, c3, c4, c5, c6, c7⟩ := at8 HB.out.2
  have HQ := Lib.hid (rightP_of (leaf := leaf) (K := K) (nv := V.length) (nd := D.length) (high := high) (bnd := bnd))
  have TW := Lib.hid HB.out.1
  go_wp2_with (first | (go_at_call 49; (with_reducible refine (CI.out _ (Turn.refl _ _)).mono ?_); rintro e w2 ⟨(_ | _), rfl, hb, ht⟩ <;> have H2 := Lib.hid (And.intro hb ht) <;> clear hb ht c0 c1 c2 c3 c4 c5 c6 c7 <;> obtain ⟨c0, c1, c2, c3, c4, c5, c6, c7⟩ := at8 (HB.out.2.no H2.out.2)) | (go_at_call 50; (with_reducible refine (CF.out _ H2.out.2).mono ?_); rintro e w3 ⟨(_ | _), rfl, hb, ht⟩ <;> have H3 := Lib.hid (And.intro hb (H2.out.2.trans ht)) <;> clear hb ht c0 c1 c2 c3 c4 c5 c6 c7 <;> obtain ⟨c0, c1, c2, c3, c4, c5, c6, c7⟩ := at8 (HB.out.2.no H3.out.2)) | (go_at_call 51; (with_reducible refine (CW.out _ H3.out.2).mono ?_); rintro e w4 ⟨(_ | _), rfl, hb, ht⟩ <;> have H4 := Lib.hid (And.intro hb (H3.out.2.trans ht)) <;> clear hb ht c0 c1 c2 c3 c4 c5 c6 c7))
  · go_ret
    exact BRes.of false rfl ⟨fun h => by (cases h), fun h => by have := H2.out.1.2 (HQ.out.1 h).1; cases this⟩ (TW.out.trans H2.out.2)
  · go_ret
    exact BRes.of false rfl ⟨fun h => by (cases h), fun h => by have := H3.out.1.2 (HQ.out.1 h).2.1; cases this⟩ (TW.out.trans H3.out.2)
  · go_ret
    exact BRes.of false rfl ⟨fun h => by (cases h), fun h => by have := H4.out.1.2 (HQ.out.1 h).2.2; cases this⟩ (TW.out.trans H4.out.2)
  · go_ret
    exact BRes.of true rfl ⟨fun _ => HQ.out.2 ⟨by first | exact H2.out.1.1 rfl | exact H2.out.1.1 trivial, by first | exact H3.out.1.1 rfl | exact H3.out.1.1 trivial, by first | exact H4.out.1.1 rfl | exact H4.out.1.1 trivial⟩, fun _ => rfl⟩ (TW.out.trans H4.out.2)
set_option maxHeartbeats 4000000 in
theorem takesP (leaf : Bool) (K V : List ByteArray) (D : List Hn) (high : ByteArray) (bnd : Bool) (sl ge : Int) (AK AV AD : Option Addr) (ck cv cd : Nat) (key : ByteArray) (w : World) (hK : Row w AK (kcs K)) (hn : K.length ≤ 100000) :
    Calls Try.prog 39 #[.agg #[.bool leaf, .slice AK K.length ck, .slice AV V.length cv, .slice AD D.length cd, .string high, .bool bnd, .int .i64 sl, .int .u64 ge], .string key] w fun e w' => BRes (RightP leaf K V.length D.length high bnd ∧ (bnd = true → kl key high)) w e w' := by
  have HB := Lib.hid (And.intro ((Turn.refl No w).alloc (.cells #[.bool leaf, .slice AK K.length ck, .slice AV V.length cv, .slice AD D.length cd, .string high, .bool bnd, .int .i64 sl, .int .u64 ge] 29)) (At.new w (.cells #[.bool leaf, .slice AK K.length ck, .slice AV V.length cv, .slice AD D.length cd, .string high, .bool bnd, .int .i64 sl, .int .u64 ge] 29)))
  have HR := Lib.hid (hK.no HB.out.1)
  clear hK
  go_enter Try.func39, Try.ntmps39
  go_upto_region 1 with fail
  generalize w.alloc (.cells #[.bool leaf, .slice AK K.length ck, .slice AV V.length cv, .slice AD D.length cd, .string high, .bool bnd, .int .i64 sl, .int .u64 ge] 29) = w1 at HB HR ⊢
  generalize w.heap.size = g at HB ⊢
  have CI := Lib.hid (rightQ leaf K V D high bnd sl ge AK AV AD ck cv cd w1 HR.out hn)
  have CF := Lib.hid fun (W : World) => coversP leaf K V D high bnd sl ge AK AV AD ck cv cd key W
  obtain ⟨c0, c1, c2, c3, c4, c5, c6, c7⟩ := at8 HB.out.2
  have TW := Lib.hid HB.out.1
  go_wp2_with (first | (go_at_call 25; (with_reducible refine CI.out.mono ?_); rintro e w2 ⟨(_ | _), rfl, hb, ht⟩ <;> have H2 := Lib.hid (And.intro hb ht) <;> clear hb ht c0 c1 c2 c3 c4 c5 c6 c7 <;> obtain ⟨c0, c1, c2, c3, c4, c5, c6, c7⟩ := at8 (HB.out.2.no H2.out.2)) | (go_at_call 26; (with_reducible refine (CF.out _).mono ?_); rintro e w3 ⟨(_ | _), rfl, hb, ht⟩ <;> have H3 := Lib.hid (And.intro hb (H2.out.2.trans ht)) <;> clear hb ht c0 c1 c2 c3 c4 c5 c6 c7))
  · go_ret
    exact BRes.of false rfl ⟨fun h => by (cases h), fun h => by have := H2.out.1.2 h.1; cases this⟩ (TW.out.trans H2.out.2)
  · go_ret
    exact BRes.of false rfl ⟨fun h => by (cases h), fun h => by have := H3.out.1.2 h.2; cases this⟩ (TW.out.trans H3.out.2)
  · go_ret
    exact BRes.of true rfl ⟨fun _ => ⟨by first | exact H2.out.1.1 rfl | exact H2.out.1.1 trivial, by first | exact H3.out.1.1 rfl | exact H3.out.1.1 trivial⟩, fun _ => rfl⟩ (TW.out.trans H3.out.2)
end Go.Proofs.Ytengbkopihiiaaa
