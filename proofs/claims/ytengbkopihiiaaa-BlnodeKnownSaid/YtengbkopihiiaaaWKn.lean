/-
  The law BlnodeKnown.
-/
import Derived.Test.YtengbkopihiiaaaKn
import Derived.Test.YtengbkopihiiaaaWq
namespace Go.Proofs.Ytengbkopihiiaaa
open Go.RowKit Go.Lib
set_option linter.unusedVariables false
set_option maxRecDepth 20000
set_option linter.unusedSimpArgs false

set_option maxRecDepth 100000 in
set_option maxHeartbeats 32000000 in
theorem known_any (w : World) : Calls Try.prog 3 #[] w fun e w' => e = .returned (.bool true) ∧ Turn No w w' := by
  have T0 : Hid (Turn No w w) := Lib.hid (Turn.refl _ _)
  go_enter Try.func3, Try.ntmps3
  go_upto_region 1 with fail
  go_wp2_with fail
  (with_reducible refine (leaf_c _).mono ?_)
  rintro e wa1 ⟨AK, ck, AV, cv, AD, cd, rfl, hi, ht⟩
  have HA := Lib.hid hi
  have TA := Lib.hid ht
  clear hi ht
  have C := Lib.hid (find_Lc ck cv cd HA.out)
  go_wp2_with fail
  (with_reducible refine C.out.mono ?_)
  rintro e wb1 ⟨rfl, ht⟩
  have TB := Lib.hid (TA.out.trans ht)
  clear C ht  HA TA
  go_upto_region 2 with fail
  replace T0 := Lib.hid (T0.out.trans TB.out)
  clear TB
  go_wp2_with fail
  (with_reducible refine (leaf_c _).mono ?_)
  rintro e wa2 ⟨AK, ck, AV, cv, AD, cd, rfl, hi, ht⟩
  have HA := Lib.hid hi
  have TA := Lib.hid ht
  clear hi ht
  have C := Lib.hid (find_Ld ck cv cd HA.out)
  go_wp2_with fail
  (with_reducible refine C.out.mono ?_)
  rintro e wb2 ⟨rfl, ht⟩
  have TB := Lib.hid (TA.out.trans ht)
  clear C ht  HA TA
  go_upto_region 3 with fail
  replace T0 := Lib.hid (T0.out.trans TB.out)
  clear TB
  go_wp2_with fail
  (with_reducible refine (leaf_c _).mono ?_)
  rintro e wa3 ⟨AK, ck, AV, cv, AD, cd, rfl, hi, ht⟩
  have HA := Lib.hid hi
  have TA := Lib.hid ht
  clear hi ht
  have C := Lib.hid (put_Ld ck cv cd HA.out)
  go_wp2_with fail
  (with_reducible refine C.out.mono ?_)
  rintro e wb3 ⟨PK, pk, PV, pv, PD, pd, rfl, i5, ht⟩
  have I5 := Lib.hid i5
  have TB := Lib.hid (TA.out.trans ht)
  clear C ht i5 HA TA
  go_upto_region 4 with fail
  have tj : Turn No wb3 (wb3.alloc (.cells #[.bool true, .slice PK 2 pk, .slice PV 2 pv, .slice PD 0 pd, .string ⟨#[]⟩, .bool false, .int .i64 0, .int .u64 0] 29)) := (Turn.refl _ _).alloc _
  have X5 := Lib.hid (And.intro (At.new wb3 (.cells #[.bool true, .slice PK 2 pk, .slice PV 2 pv, .slice PD 0 pd, .string ⟨#[]⟩, .bool false, .int .i64 0, .int .u64 0] 29)) (I5.out.no tj))
  clear I5
  have TJ := Lib.hid (TB.out.trans tj)
  clear tj
  generalize (wb3.alloc (.cells #[.bool true, .slice PK 2 pk, .slice PV 2 pv, .slice PD 0 pd, .string ⟨#[]⟩, .bool false, .int .i64 0, .int .u64 0] 29)) = w5 at X5 TJ ⊢
  obtain ⟨r5, hr⟩ : ∃ q, wb3.heap.size = q := ⟨_, rfl⟩
  rw [hr] at X5
  rw [hr]
  clear hr
  replace T0 := Lib.hid (T0.out.trans TJ.out)
  clear TJ TB
  go_wp2_with fail
  (with_reducible refine (leaf_c _).mono ?_)
  rintro e wa4 ⟨AK, ck, AV, cv, AD, cd, rfl, hi, ht⟩
  have HA := Lib.hid hi
  have TA := Lib.hid ht
  clear hi ht
  have C := Lib.hid (del_Lx ck cv cd HA.out)
  go_wp2_with fail
  (with_reducible refine C.out.mono ?_)
  rintro e wb4 ⟨QK, qk, QV, qv, QD, qd, oldx, rfl, i8, ht⟩
  have I8 := Lib.hid i8
  have TB := Lib.hid (TA.out.trans ht)
  clear C ht i8 HA TA
  go_upto_region 5 with fail
  have tj : Turn No wb4 (wb4.alloc (.cells #[.bool true, .slice QK 2 qk, .slice QV 2 qv, .slice QD 0 qd, .string ⟨#[]⟩, .bool false, .int .i64 0, .int .u64 0] 29)) := (Turn.refl _ _).alloc _
  have X8 := Lib.hid (And.intro (At.new wb4 (.cells #[.bool true, .slice QK 2 qk, .slice QV 2 qv, .slice QD 0 qd, .string ⟨#[]⟩, .bool false, .int .i64 0, .int .u64 0] 29)) (I8.out.no tj))
  clear I8
  have TJ := Lib.hid (TB.out.trans tj)
  clear tj
  generalize (wb4.alloc (.cells #[.bool true, .slice QK 2 qk, .slice QV 2 qv, .slice QD 0 qd, .string ⟨#[]⟩, .bool false, .int .i64 0, .int .u64 0] 29)) = w8 at X8 TJ ⊢
  obtain ⟨r8, hr⟩ : ∃ q, wb4.heap.size = q := ⟨_, rfl⟩
  rw [hr] at X8
  rw [hr]
  clear hr
  replace X5 := Lib.hid (And.intro (X5.out.1.no TJ.out) (X5.out.2.no TJ.out))
  replace T0 := Lib.hid (T0.out.trans TJ.out)
  clear TJ TB
  go_wp2_with fail
  (with_reducible refine (inner_c _).mono ?_)
  rintro e wa5 ⟨AK, ck, AV, cv, AD, cd, rfl, hi, ht⟩
  have HA := Lib.hid hi
  have TA := Lib.hid ht
  clear hi ht
  have C := Lib.hid (kid_Ia ck cv cd HA.out)
  go_wp2_with fail
  (with_reducible refine C.out.mono ?_)
  rintro e wb5 ⟨rfl, ht⟩
  have TB := Lib.hid (TA.out.trans ht)
  clear C ht  HA TA
  go_upto_region 6 with fail
  have tj : Turn No wb5 (wb5.alloc (.cells #[.int .i64 1, .int .u64 1] 27)) := (Turn.refl _ _).alloc _
  have X11 := Lib.hid (At.new wb5 (.cells #[.int .i64 1, .int .u64 1] 27))
  have TJ := Lib.hid (TB.out.trans tj)
  clear tj
  generalize (wb5.alloc (.cells #[.int .i64 1, .int .u64 1] 27)) = w11 at X11 TJ ⊢
  obtain ⟨r11, hr⟩ : ∃ q, wb5.heap.size = q := ⟨_, rfl⟩
  rw [hr] at X11
  rw [hr]
  clear hr
  replace X5 := Lib.hid (And.intro (X5.out.1.no TJ.out) (X5.out.2.no TJ.out))
  replace X8 := Lib.hid (And.intro (X8.out.1.no TJ.out) (X8.out.2.no TJ.out))
  replace T0 := Lib.hid (T0.out.trans TJ.out)
  clear TJ TB
  go_wp2_with fail
  (with_reducible refine (inner_c _).mono ?_)
  rintro e wa6 ⟨AK, ck, AV, cv, AD, cd, rfl, hi, ht⟩
  have HA := Lib.hid hi
  have TA := Lib.hid ht
  clear hi ht
  have C := Lib.hid (kid_Im ck cv cd HA.out)
  go_wp2_with fail
  (with_reducible refine C.out.mono ?_)
  rintro e wb6 ⟨rfl, ht⟩
  have TB := Lib.hid (TA.out.trans ht)
  clear C ht  HA TA
  go_upto_region 7 with fail
  have tj : Turn No wb6 (wb6.alloc (.cells #[.int .i64 2, .int .u64 1] 27)) := (Turn.refl _ _).alloc _
  have X13 := Lib.hid (At.new wb6 (.cells #[.int .i64 2, .int .u64 1] 27))
  have TJ := Lib.hid (TB.out.trans tj)
  clear tj
  generalize (wb6.alloc (.cells #[.int .i64 2, .int .u64 1] 27)) = w13 at X13 TJ ⊢
  obtain ⟨r13, hr⟩ : ∃ q, wb6.heap.size = q := ⟨_, rfl⟩
  rw [hr] at X13
  rw [hr]
  clear hr
  replace X5 := Lib.hid (And.intro (X5.out.1.no TJ.out) (X5.out.2.no TJ.out))
  replace X8 := Lib.hid (And.intro (X8.out.1.no TJ.out) (X8.out.2.no TJ.out))
  replace X11 := Lib.hid (X11.out.no TJ.out)
  replace T0 := Lib.hid (T0.out.trans TJ.out)
  clear TJ TB
  go_wp2_with fail
  (with_reducible refine (inner_c _).mono ?_)
  rintro e wa7 ⟨AK, ck, AV, cv, AD, cd, rfl, hi, ht⟩
  have HA := Lib.hid hi
  have TA := Lib.hid ht
  clear hi ht
  have C := Lib.hid (kid_Iz ck cv cd HA.out)
  go_wp2_with fail
  (with_reducible refine C.out.mono ?_)
  rintro e wb7 ⟨rfl, ht⟩
  have TB := Lib.hid (TA.out.trans ht)
  clear C ht  HA TA
  go_upto_region 8 with fail
  have tj : Turn No wb7 (wb7.alloc (.cells #[.int .i64 3, .int .u64 1] 27)) := (Turn.refl _ _).alloc _
  have X15 := Lib.hid (At.new wb7 (.cells #[.int .i64 3, .int .u64 1] 27))
  have TJ := Lib.hid (TB.out.trans tj)
  clear tj
  generalize (wb7.alloc (.cells #[.int .i64 3, .int .u64 1] 27)) = w15 at X15 TJ ⊢
  obtain ⟨r15, hr⟩ : ∃ q, wb7.heap.size = q := ⟨_, rfl⟩
  rw [hr] at X15
  rw [hr]
  clear hr
  replace X5 := Lib.hid (And.intro (X5.out.1.no TJ.out) (X5.out.2.no TJ.out))
  replace X8 := Lib.hid (And.intro (X8.out.1.no TJ.out) (X8.out.2.no TJ.out))
  replace X11 := Lib.hid (X11.out.no TJ.out)
  replace X13 := Lib.hid (X13.out.no TJ.out)
  replace T0 := Lib.hid (T0.out.trans TJ.out)
  clear TJ TB
  go_wp2_with fail
  (with_reducible refine (leaf_c _).mono ?_)
  rintro e wa8 ⟨AK, ck, AV, cv, AD, cd, rfl, hi, ht⟩
  have HA := Lib.hid hi
  have TA := Lib.hid ht
  clear hi ht
  have C := Lib.hid (kid_L ck cv cd HA.out)
  go_wp2_with fail
  (with_reducible refine C.out.mono ?_)
  rintro e wb8 ⟨rfl, ht⟩
  have TB := Lib.hid (TA.out.trans ht)
  clear C ht  HA TA
  go_upto_region 9 with fail
  have tj : Turn No wb8 (wb8.alloc (.cells #[.int .i64 0, .int .u64 0] 27)) := (Turn.refl _ _).alloc _
  have X17 := Lib.hid (At.new wb8 (.cells #[.int .i64 0, .int .u64 0] 27))
  have TJ := Lib.hid (TB.out.trans tj)
  clear tj
  generalize (wb8.alloc (.cells #[.int .i64 0, .int .u64 0] 27)) = w17 at X17 TJ ⊢
  obtain ⟨r17, hr⟩ : ∃ q, wb8.heap.size = q := ⟨_, rfl⟩
  rw [hr] at X17
  rw [hr]
  clear hr
  replace X5 := Lib.hid (And.intro (X5.out.1.no TJ.out) (X5.out.2.no TJ.out))
  replace X8 := Lib.hid (And.intro (X8.out.1.no TJ.out) (X8.out.2.no TJ.out))
  replace X11 := Lib.hid (X11.out.no TJ.out)
  replace X13 := Lib.hid (X13.out.no TJ.out)
  replace X15 := Lib.hid (X15.out.no TJ.out)
  replace T0 := Lib.hid (T0.out.trans TJ.out)
  clear TJ TB
  go_wp2_with fail
  (with_reducible refine (inner_c _).mono ?_)
  rintro e wa9 ⟨AK, ck, AV, cv, AD, cd, rfl, hi, ht⟩
  have HA := Lib.hid hi
  have TA := Lib.hid ht
  clear hi ht
  have C := Lib.hid (add_I ck cv cd HA.out)
  go_wp2_with fail
  (with_reducible refine C.out.mono ?_)
  rintro e wb9 ⟨AK2, ak2, AV2, av2, AD2, ad2, rfl, i19, ht⟩
  have I19 := Lib.hid i19
  have TB := Lib.hid (TA.out.trans ht)
  clear C ht i19 HA TA
  go_upto_region 10 with fail
  have tj : Turn No wb9 (wb9.alloc (.cells #[.bool false, .slice AK2 3 ak2, .slice AV2 0 av2, .slice AD2 4 ad2, .string ⟨#[]⟩, .bool false, .int .i64 0, .int .u64 0] 29)) := (Turn.refl _ _).alloc _
  have X19 := Lib.hid (And.intro (At.new wb9 (.cells #[.bool false, .slice AK2 3 ak2, .slice AV2 0 av2, .slice AD2 4 ad2, .string ⟨#[]⟩, .bool false, .int .i64 0, .int .u64 0] 29)) (I19.out.no tj))
  clear I19
  have TJ := Lib.hid (TB.out.trans tj)
  clear tj
  generalize (wb9.alloc (.cells #[.bool false, .slice AK2 3 ak2, .slice AV2 0 av2, .slice AD2 4 ad2, .string ⟨#[]⟩, .bool false, .int .i64 0, .int .u64 0] 29)) = w19 at X19 TJ ⊢
  obtain ⟨r19, hr⟩ : ∃ q, wb9.heap.size = q := ⟨_, rfl⟩
  rw [hr] at X19
  rw [hr]
  clear hr
  replace X5 := Lib.hid (And.intro (X5.out.1.no TJ.out) (X5.out.2.no TJ.out))
  replace X8 := Lib.hid (And.intro (X8.out.1.no TJ.out) (X8.out.2.no TJ.out))
  replace X11 := Lib.hid (X11.out.no TJ.out)
  replace X13 := Lib.hid (X13.out.no TJ.out)
  replace X15 := Lib.hid (X15.out.no TJ.out)
  replace X17 := Lib.hid (X17.out.no TJ.out)
  replace T0 := Lib.hid (T0.out.trans TJ.out)
  clear TJ TB
  go_wp2_with fail
  (with_reducible refine (leaf_c _).mono ?_)
  rintro e wa10 ⟨AK, ck, AV, cv, AD, cd, rfl, hi, ht⟩
  have HA := Lib.hid hi
  have TA := Lib.hid ht
  clear hi ht
  have C := Lib.hid (split_Lw ck cv cd HA.out)
  go_wp2_with fail
  (with_reducible refine C.out.mono ?_)
  rintro e wb10 ⟨SK, sk, SV, sv, SD, sd, UK, uk, UV, uv, UD, ud, rfl, i20, i21, ht⟩
  have I20 := Lib.hid i20
  have I21 := Lib.hid i21
  have TB := Lib.hid (TA.out.trans ht)
  clear C ht i20 i21 HA TA
  go_upto_region 11 with fail
  have ta : Turn No wb10 (wb10.alloc (.cells #[.bool true, .slice SK 1 sk, .slice SV 1 sv, .slice SD 0 sd, .string ⟨#[100]⟩, .bool true, .int .i64 9, .int .u64 1] 29)) := (Turn.refl _ _).alloc _
  have tb : Turn No (wb10.alloc (.cells #[.bool true, .slice SK 1 sk, .slice SV 1 sv, .slice SD 0 sd, .string ⟨#[100]⟩, .bool true, .int .i64 9, .int .u64 1] 29)) ((wb10.alloc (.cells #[.bool true, .slice SK 1 sk, .slice SV 1 sv, .slice SD 0 sd, .string ⟨#[100]⟩, .bool true, .int .i64 9, .int .u64 1] 29)).alloc (.cells #[.bool true, .slice UK 1 uk, .slice UV 1 uv, .slice UD 0 ud, .string ⟨#[]⟩, .bool false, .int .i64 0, .int .u64 0] 29)) := (Turn.refl _ _).alloc _
  have aR := At.new (wb10.alloc (.cells #[.bool true, .slice SK 1 sk, .slice SV 1 sv, .slice SD 0 sd, .string ⟨#[100]⟩, .bool true, .int .i64 9, .int .u64 1] 29)) (.cells #[.bool true, .slice UK 1 uk, .slice UV 1 uv, .slice UD 0 ud, .string ⟨#[]⟩, .bool false, .int .i64 0, .int .u64 0] 29)
  rw [World.size_alloc] at aR
  have X20 := Lib.hid (And.intro ((At.new wb10 (.cells #[.bool true, .slice SK 1 sk, .slice SV 1 sv, .slice SD 0 sd, .string ⟨#[100]⟩, .bool true, .int .i64 9, .int .u64 1] 29)).no tb) ((I20.out.no ta).no tb))
  have X21 := Lib.hid (And.intro aR ((I21.out.no ta).no tb))
  have TJ := Lib.hid ((TB.out.trans ta).trans tb)
  clear ta tb aR I20 I21 TB
  generalize ((wb10.alloc (.cells #[.bool true, .slice SK 1 sk, .slice SV 1 sv, .slice SD 0 sd, .string ⟨#[100]⟩, .bool true, .int .i64 9, .int .u64 1] 29)).alloc (.cells #[.bool true, .slice UK 1 uk, .slice UV 1 uv, .slice UD 0 ud, .string ⟨#[]⟩, .bool false, .int .i64 0, .int .u64 0] 29)) = w21 at X20 X21 TJ ⊢
  obtain ⟨r20, hr⟩ : ∃ q, wb10.heap.size = q := ⟨_, rfl⟩
  rw [hr] at X20 X21
  rw [hr]
  clear hr
  replace X5 := Lib.hid (And.intro (X5.out.1.no TJ.out) (X5.out.2.no TJ.out))
  replace X8 := Lib.hid (And.intro (X8.out.1.no TJ.out) (X8.out.2.no TJ.out))
  replace X11 := Lib.hid (X11.out.no TJ.out)
  replace X13 := Lib.hid (X13.out.no TJ.out)
  replace X15 := Lib.hid (X15.out.no TJ.out)
  replace X17 := Lib.hid (X17.out.no TJ.out)
  replace X19 := Lib.hid (And.intro (X19.out.1.no TJ.out) (X19.out.2.no TJ.out))
  replace T0 := Lib.hid (T0.out.trans TJ.out)
  clear TJ
  have TD : Hid (Turn No w21 w21.drew) := Lib.hid (Turn.refl No w21).drew
  obtain ⟨pb, po, hP, hc⟩ := kcs_hold X5.out.2.v (j := 1) (k := ⟨#[57]⟩) (by rfl)
  have HPC := Lib.hid hc
  clear hc
  subst hP
  have HS : Hid (∀ W, Turn No w21 W → W.cell? ⟨r5, 2, none⟩ = some (.slice (some ⟨pb, po, none⟩) 2 pv) ∧ W.cell? ⟨pb, po + 1, none⟩ = some (.string ⟨#[57]⟩) ∧ W.cell? ⟨r8, 0, none⟩ = some (.bool true) ∧ W.cell? ⟨r8, 1, none⟩ = some (.slice QK 2 qk) ∧ W.cell? ⟨r8, 2, none⟩ = some (.slice QV 2 qv) ∧ W.cell? ⟨r8, 3, none⟩ = some (.slice QD 0 qd) ∧ W.cell? ⟨r8, 4, none⟩ = some (.string ⟨#[]⟩) ∧ W.cell? ⟨r8, 5, none⟩ = some (.bool false) ∧ W.cell? ⟨r8, 6, none⟩ = some (.int .i64 0) ∧ W.cell? ⟨r8, 7, none⟩ = some (.int .u64 0)) := Lib.hid fun W t => by
    have a5 := X5.out.1.no t
    have a8 := X8.out.1.no t
    exact ⟨a5.cell 2, HPC.out W t, a8.cell 0, a8.cell 1, a8.cell 2, a8.cell 3, a8.cell 4, a8.cell 5, a8.cell 6, a8.cell 7⟩
  clear HPC
  go_cut [111] from 75 to 111 (fun s wx => s = .bool false ∧ Hid (Turn No w21 wx))
  case first =>
    go_region_held3 (fun W => W.cell? ⟨r5, 2, none⟩ = some (.slice (some ⟨pb, po, none⟩) 2 pv) ∧ W.cell? ⟨pb, po + 1, none⟩ = some (.string ⟨#[57]⟩) ∧ W.cell? ⟨r8, 0, none⟩ = some (.bool true) ∧ W.cell? ⟨r8, 1, none⟩ = some (.slice QK 2 qk) ∧ W.cell? ⟨r8, 2, none⟩ = some (.slice QV 2 qv) ∧ W.cell? ⟨r8, 3, none⟩ = some (.slice QD 0 qd) ∧ W.cell? ⟨r8, 4, none⟩ = some (.string ⟨#[]⟩) ∧ W.cell? ⟨r8, 5, none⟩ = some (.bool false) ∧ W.cell? ⟨r8, 6, none⟩ = some (.int .i64 0) ∧ W.cell? ⟨r8, 7, none⟩ = some (.int .u64 0)) (first | (with_reducible exact HS.out _ TD.out) | (with_reducible exact HS.out _ H6.out.2) | (with_reducible exact HS.out _ H7.out)) (first | (go_at_call 10; (with_reducible refine (leaf_c _).mono ?_); rintro e w22 ⟨AK, ck, AV, cv, AD, cd, rfl, hi, ht⟩; have H6 := Lib.hid (And.intro hi (TD.out.trans ht)); clear hi ht) | (go_at_call 18; (with_reducible refine (eq_L qk qv qd ck cv cd (X8.out.2.no H6.out.2) H6.out.1).mono ?_); rintro e w23 ⟨rfl, ht⟩; have H7 := Lib.hid (H6.out.2.trans ht); clear ht))
    all_goals
      go_wp2_with fail
      go_meet
      exact ⟨rfl, H7⟩
  obtain ⟨rfl, TJ⟩ := hcut
  generalize wc = w22 at TJ ⊢
  clear HS TD
  clear X5 X8
  replace X11 := Lib.hid (X11.out.no TJ.out)
  replace X13 := Lib.hid (X13.out.no TJ.out)
  replace X15 := Lib.hid (X15.out.no TJ.out)
  replace X17 := Lib.hid (X17.out.no TJ.out)
  replace X19 := Lib.hid (And.intro (X19.out.1.no TJ.out) (X19.out.2.no TJ.out))
  replace X20 := Lib.hid (And.intro (X20.out.1.no TJ.out) (X20.out.2.no TJ.out))
  replace X21 := Lib.hid (And.intro (X21.out.1.no TJ.out) (X21.out.2.no TJ.out))
  replace T0 := Lib.hid (T0.out.trans TJ.out)
  clear TJ
  go_upto_region 13 with fail
  obtain ⟨db, dof, hD, hd0, hd1⟩ := X19.out.2.d.hn (j := 2) (x := ⟨7, 1⟩) (by rfl)
  clear hd0 hd1
  have HX : Hid (∀ W, Turn No w22 W → W.cell? ⟨db, dof + 2 * 2, none⟩ = some (.int .i64 7)) := Lib.hid fun W t => by
    obtain ⟨b', o', hA', q0, q1⟩ := (X19.out.2.d.no t).hn (j := 2) (x := ⟨7, 1⟩) (by rfl)
    rw [hD] at hA'
    injection hA' with hA'
    injection hA' with e1 e2
    subst e1 e2
    exact q0
  have C := Lib.hid (same3 ak2 X19.out.2.k)
  subst hD
  obtain ⟨k0, k1⟩ := at2 X11.out
  obtain ⟨l0, l1⟩ := at2 X13.out
  obtain ⟨m0, m1⟩ := at2 X15.out
  obtain ⟨c0, c1, c2, c3, c4, c5, c6, c7⟩ := at8 X19.out.1
  go_upto_region 15 with (go_at_call 19; (with_reducible refine C.out.mono ?_); rintro e w23 ⟨rfl, ht⟩; have TJ := Lib.hid ht; clear ht k0 k1 l0 l1 m0 m1 c0 c1 c2 c3 c4 c5 c6 c7; obtain ⟨c0, c1, c2, c3, c4, c5, c6, c7⟩ := at8 (X19.out.1.no TJ.out); have hx1 := HX.out _ TJ.out; have hx2 : w23.cell? ⟨db, dof + 4, none⟩ = some (.int .i64 7) := hx1)
  clear C hx1 hx2 HX c0 c1 c2 c3 c4 c5 c6 c7
  clear X11 X13 X15 X17 X19
  replace X20 := Lib.hid (And.intro (X20.out.1.no TJ.out) (X20.out.2.no TJ.out))
  replace X21 := Lib.hid (And.intro (X21.out.1.no TJ.out) (X21.out.2.no TJ.out))
  replace T0 := Lib.hid (T0.out.trans TJ.out)
  clear TJ
  go_wp2_with (first | (go_at_call 20; (with_reducible refine (awake_c _).mono ?_); rintro e w24 ⟨rfl, ht⟩; have T24 := Lib.hid ht; clear ht; obtain ⟨c0, c1, c2, c3, c4, c5, c6, c7⟩ := at8 (X20.out.1.no T24.out); obtain ⟨e0, e1, e2, e3, e4, e5, e6, e7⟩ := at8 (X21.out.1.no T24.out); have CQ := Lib.hid (same1 uk (X21.out.2.k.no T24.out))) | (go_at_call 19; (with_reducible refine CQ.out.mono ?_); rintro e w25 ⟨rfl, ht⟩; have T25 := Lib.hid (T24.out.trans ht); clear ht e0 e1 e2 e3 e4 e5 e6 e7 c0 c1 c2 c3 c4 c5 c6 c7; obtain ⟨e0, e1, e2, e3, e4, e5, e6, e7⟩ := at8 (X21.out.1.no T25.out)))
  go_ret
  exact ⟨rfl, T0.out.trans T25.out⟩
end Go.Proofs.Ytengbkopihiiaaa
