/-
  OmapLasts: Get tells what was put last.
-/
import Derived.Test.YtjjmooegpoeomaaWWlk
import Derived.Test.YtjjmooegpoeomaaLpm
namespace Go.Proofs.Ytjjmooegpoeomaa
open Go.RowKit Go.Lib
set_option linter.unusedVariables false
set_option linter.unusedSimpArgs false

set_option maxRecDepth 100000 in
set_option maxHeartbeats 16000000 in
theorem lasts_any (A : Option Addr) (cap : Nat) (l : List Pr) (B : Option Addr) (cap2 : Nat) (ops : List Opx) (ps : List (List Wr)) (key : ByteArray) (w : World) (hl : InP w A l.length cap l) (ho : InOs w B ops.length cap2 ops ps) (hk : Fit key) :
    Calls Try.prog 5 #[.slice A l.length cap, .slice B ops.length cap2, .string key] w fun e w' => e = .returned (.bool true) ∧ Turn No w w' := by
  have HR := Lib.hid (And.intro hl ho)
  have CW := Lib.hid wakes_any
  have CG := Lib.hid (great_any A cap l B cap2 ops ps w hl ho)
  have hm1 := hl.hmax
  have hm2 := ho.hmax
  unfold maxLen at hm1 hm2
  unfold Fit at hk
  clear hl ho
  go_enter Try.func5, Try.ntmps5
  go_upto_region 1 with fail
  go_cut [24] from 17 to 25 (fun s wx => ∃ bv : Bool, s = .bool bv ∧ Hid ((bv = false → FewA l ops ps ∧ key.size ≤ 500) ∧ Turn No w wx))
  case first =>
    by_cases hkey : 500 < key.size
    · have hk2 : (500 : Int) < (key.size : Int) := by omega
      clear hkey
      go_upto_region 99 with (go_at_call 9; refine CG.out.mono ?_; rintro e w1 ⟨⟨bv, rfl, hP⟩, ht⟩; have HP := Lib.hid (And.intro hP ht); clear hP ht; cases bv)
      all_goals go_meet
      all_goals exact ⟨true, rfl, Lib.hid ⟨fun e => (by cases e), HP.out.2⟩⟩
    · have hk2 : ¬ (500 : Int) < (key.size : Int) := by omega
      have HK : Hid (key.size ≤ 500) := Lib.hid (by omega)
      clear hkey
      go_upto_region 99 with (go_at_call 9; refine CG.out.mono ?_; rintro e w1 ⟨⟨bv, rfl, hP⟩, ht⟩; have HP := Lib.hid (And.intro hP ht); clear hP ht; cases bv)
      · go_meet
        exact ⟨false, by rw [decide_eq_false (by omega)], Lib.hid ⟨fun e => ⟨HP.out.1 (by simp), HK.out⟩, HP.out.2⟩⟩
      · go_meet
        exact ⟨true, rfl, Lib.hid ⟨fun e => (by cases e), HP.out.2⟩⟩
  case rest =>
    obtain ⟨bv, rfl, HG⟩ := hcut
    clear CG
    cases bv with
    | true =>
      go_wp2_with (go_at_call 10; refine (CW.out _).mono ?_; rintro e w3 ⟨rfl, ht⟩)
      go_ret
      exact ⟨rfl, HG.out.2.trans ht⟩
    | false =>
      have hF := HG.out.1 rfl
      have HF := Lib.hid hF
      have C1 := Lib.hid (so_new HG.out.2 A cap l HR.out.1 hF.1.nl)
      have hno : ops.length ≤ 100 := hF.1.no
      clear hF
      go_upto_region 4 with (go_at_call 11; refine C1.out.mono ?_; rintro e w3 ⟨mp, rr, rfl, hso, ht⟩; have H3 := Lib.hid hso; clear hso ht)
      clear C1 HG
      have H4 : Hid (∃ r M, So w (w3.alloc (.cells #[.int .u8 1, .string key, .string ⟨#[]⟩, .string ⟨#[]⟩, .bool false, .bool false, .slice none 0 0] 39)) mp r M ∧ M.length ≤ 100 + 50 * 0 ∧ At (w3.alloc (.cells #[.int .u8 1, .string key, .string ⟨#[]⟩, .string ⟨#[]⟩, .bool false, .bool false, .slice none 0 0] 39)) w3.heap.size (.cells #[.int .u8 1, .string key, .string ⟨#[]⟩, .string ⟨#[]⟩, .bool false, .bool false, .slice none 0 0] 39 (0, 0))) := Lib.hid ⟨_, _, H3.out.no ((Turn.refl _ _).alloc _), news_few HF.out.1.nl, At.new _ _⟩
      go_upto_region 5 with fail
      generalize w3.alloc (.cells #[.int .u8 1, .string key, .string ⟨#[]⟩, .string ⟨#[]⟩, .bool false, .bool false, .slice none 0 0] 39) = w4 at H4 ⊢
      generalize w3.heap.size = g8 at H4 ⊢
      clear H3
      go_wp2_with fail
      go_loopw [9] (fun x wr => ∃ ii : Nat, ii ≤ ops.length ∧ x = .int .i64 (ii : Int) ∧ Hid (∃ r M, So w wr mp r M ∧ M.length ≤ 100 + 50 * ii ∧ At wr g8 (.cells #[.int .u8 1, .string key, .string ⟨#[]⟩, .string ⟨#[]⟩, .bool false, .bool false, .slice none 0 0] 39 (0, 0)))) (fun x _ => ops.length - (RowKit.intOf x).toNat)
      case atStart => exact ⟨0, Nat.zero_le _, rfl, H4⟩
      case round =>
        obtain ⟨ii, hi, rfl, HP⟩ := hrel
        clear H4
        obtain ⟨r0, M, hso, hML, hg8⟩ := HP.out
        have HS := Lib.hid (And.intro hso (And.intro hML hg8))
        clear hso hML hg8 HP
        by_cases hlt : ii < ops.length
        · as_aux_lemma =>
            obtain ⟨x, hx⟩ : ∃ x, ops[ii]? = some x := ⟨ops[ii], List.getElem?_eq_getElem hlt⟩
            obtain ⟨ws, hws⟩ : ∃ ws, ps[ii]? = some ws := ⟨ps[ii]'(by rw [HR.out.2.plen]; exact hlt), List.getElem?_eq_getElem _⟩
            have hin := HR.out.2.get ii x ws hx hws
            have hfew := HF.out.1.w ii x ws hx hws
            obtain ⟨b, o, hB, hb, hcell⟩ := (HR.out.2.row.turn HS.out.1.tu fun _ _ _ h => h).opx hx
            obtain ⟨kd, k, v, ov, had, aft, A3, len3, cap3⟩ := x
            have hlen : ws.length = len3 := hin.row.hlen
            subst hlen
            have x0 := hcell 0 _ (by decide) rfl
            have x1 := hcell 1 _ (by decide) rfl
            have x2 := hcell 2 _ (by decide) rfl
            have x3 := hcell 3 _ (by decide) rfl
            have x4 := hcell 4 _ (by decide) rfl
            have x5 := hcell 5 _ (by decide) rfl
            have x6 := hcell 6 _ (by decide) rfl
            simp only [Nat.add_zero] at x0 x1 x2 x3 x4 x5 x6 hfew
            subst hB
            have HIN := Lib.hid (And.intro hin hfew)
            have hq1 : (0 : Int) ≤ (ii : Int) := by omega
            have hq2 : (ii : Int) < (ops.length : Int) := by omega
            have hwn : ws.length ≤ 40 := hfew.n
            obtain ⟨M2, hM2⟩ : ∃ M2, doM M kd k v ov had aft ws = M2 := ⟨_, rfl⟩
            obtain ⟨aa, haa⟩ : ∃ a, doA M kd k v ov had aft ws = a := ⟨_, rfl⟩
            obtain ⟨wa, hwa⟩ : ∃ a, getA M key = a := ⟨_, rfl⟩
            obtain ⟨ia, hia⟩ : ∃ a, getA M2 key = a := ⟨_, rfl⟩
            have HA := Lib.hid (And.intro hM2 (And.intro haa (And.intro hwa hia)))
            have HL : Hid (M.length ≤ 10000 ∧ M2.length ≤ 100 + 50 * (ii + 1)) := Lib.hid ⟨by have := HS.out.2.1; omega, by have h1 := doM_length M kd k v ov had aft ws; have h2 := HS.out.2.1; rw [hM2] at h1; omega⟩
            have T9 : Turn No wr (wr.alloc (.cells #[.int .u8 kd, .string k, .string v, .string ov, .bool had, .bool aft, .slice A3 ws.length cap3] 39)) := (Turn.refl _ _).alloc _
            have H9 : Hid (So w (wr.alloc (.cells #[.int .u8 kd, .string k, .string v, .string ov, .bool had, .bool aft, .slice A3 ws.length cap3] 39)) mp r0 M ∧ At (wr.alloc (.cells #[.int .u8 kd, .string k, .string v, .string ov, .bool had, .bool aft, .slice A3 ws.length cap3] 39)) g8 (.cells #[.int .u8 1, .string key, .string ⟨#[]⟩, .string ⟨#[]⟩, .bool false, .bool false, .slice none 0 0] 39 (0, 0)) ∧ At (wr.alloc (.cells #[.int .u8 kd, .string k, .string v, .string ov, .bool had, .bool aft, .slice A3 ws.length cap3] 39)) wr.heap.size (.cells #[.int .u8 kd, .string k, .string v, .string ov, .bool had, .bool aft, .slice A3 ws.length cap3] 39 (0, 0))) := Lib.hid ⟨HS.out.1.no T9, HS.out.2.2.no T9, At.new _ _⟩
            clear T9 hb hcell hin hfew hM2 haa hwa hia hx hws
            go_upto_region 9 with fail
            generalize wr.alloc (.cells #[.int .u8 kd, .string k, .string v, .string ov, .bool had, .bool aft, .slice A3 ws.length cap3] 39) = w5 at H9 ⊢
            generalize wr.heap.size = g10 at H9 ⊢
            clear HS x0 x1 x2 x3 x4 x5 x6
            have C := Lib.hid (om_do H9.out.1.a H9.out.1.tu 1 key ⟨#[]⟩ ⟨#[]⟩ false false none 0 [] (Row.nil _ _) ⟨HF.out.2, by decide, by decide, by decide, by simp⟩ (by have := HL.out; omega) (a := wa) HA.out.2.2.1 (doM_get _ _ _ _ _ _ _))
            simp only [List.length_nil] at C
            have y0 := (H9.out.2.1).cell 0
            have y1 := (H9.out.2.1).cell 1
            have y2 := (H9.out.2.1).cell 2
            have y3 := (H9.out.2.1).cell 3
            have y4 := (H9.out.2.1).cell 4
            have y5 := (H9.out.2.1).cell 5
            have y6 := (H9.out.2.1).cell 6
            simp at y0 y1 y2 y3 y4 y5 y6
            go_upto_region 10 with (go_at_call 16; refine C.out.mono ?_; rintro e w5 ⟨rfl, r1, hom, hr, ht⟩; have H5 : Hid (So w w5 mp r1 M ∧ At w5 g8 (.cells #[.int .u8 1, .string key, .string ⟨#[]⟩, .string ⟨#[]⟩, .bool false, .bool false, .slice none 0 0] 39 (0, 0)) ∧ At w5 g10 (.cells #[.int .u8 kd, .string k, .string v, .string ov, .bool had, .bool aft, .slice A3 ws.length cap3] 39 (0, 0))) := Lib.hid ⟨⟨hom, turn_mp (H9.out.1).a (H9.out.1).tu ht⟩, (H9.out.1).a.keep (H9.out.2.1) (by decide) (by decide) ht, (H9.out.1).a.keep (H9.out.2.2) (by decide) (by decide) ht⟩; clear hom hr ht)
            clear C H9 y0 y1 y2 y3 y4 y5 y6
            have H10 : Hid (So w (w5.alloc (.cells #[.int .i64 wa.code, .bool wa.found, .string wa.k, .string wa.v] 35)) mp r1 M ∧ At (w5.alloc (.cells #[.int .i64 wa.code, .bool wa.found, .string wa.k, .string wa.v] 35)) g8 (.cells #[.int .u8 1, .string key, .string ⟨#[]⟩, .string ⟨#[]⟩, .bool false, .bool false, .slice none 0 0] 39 (0, 0)) ∧ At (w5.alloc (.cells #[.int .i64 wa.code, .bool wa.found, .string wa.k, .string wa.v] 35)) g10 (.cells #[.int .u8 kd, .string k, .string v, .string ov, .bool had, .bool aft, .slice A3 ws.length cap3] 39 (0, 0)) ∧ At (w5.alloc (.cells #[.int .i64 wa.code, .bool wa.found, .string wa.k, .string wa.v] 35)) w5.heap.size (.cells #[.int .i64 wa.code, .bool wa.found, .string wa.k, .string wa.v] 35 (0, 0))) := Lib.hid ⟨(H5.out.1).no ((Turn.refl _ _).alloc _), (H5.out.2.1).no ((Turn.refl _ _).alloc _), (H5.out.2.2).no ((Turn.refl _ _).alloc _), At.new _ _⟩
            generalize w5.alloc (.cells #[.int .i64 wa.code, .bool wa.found, .string wa.k, .string wa.v] 35) = w6 at H10 ⊢
            generalize w5.heap.size = g11 at H10 ⊢
            clear H5
            have C := Lib.hid (om_do H10.out.1.a H10.out.1.tu kd k v ov had aft A3 cap3 ws HIN.out.1.row.row HIN.out.2 (by have := HL.out; omega) HA.out.2.1 HA.out.1)
            have y0 := (H10.out.2.2.1).cell 0
            have y1 := (H10.out.2.2.1).cell 1
            have y2 := (H10.out.2.2.1).cell 2
            have y3 := (H10.out.2.2.1).cell 3
            have y4 := (H10.out.2.2.1).cell 4
            have y5 := (H10.out.2.2.1).cell 5
            have y6 := (H10.out.2.2.1).cell 6
            simp at y0 y1 y2 y3 y4 y5 y6
            go_upto_region 11 with (go_at_call 16; refine C.out.mono ?_; rintro e w5 ⟨rfl, r2, hom, hr, ht⟩; have H5 : Hid (So w w5 mp r2 M2 ∧ At w5 g8 (.cells #[.int .u8 1, .string key, .string ⟨#[]⟩, .string ⟨#[]⟩, .bool false, .bool false, .slice none 0 0] 39 (0, 0)) ∧ At w5 g10 (.cells #[.int .u8 kd, .string k, .string v, .string ov, .bool had, .bool aft, .slice A3 ws.length cap3] 39 (0, 0)) ∧ At w5 g11 (.cells #[.int .i64 wa.code, .bool wa.found, .string wa.k, .string wa.v] 35 (0, 0))) := Lib.hid ⟨⟨hom, turn_mp (H10.out.1).a (H10.out.1).tu ht⟩, (H10.out.1).a.keep (H10.out.2.1) (by decide) (by decide) ht, (H10.out.1).a.keep (H10.out.2.2.1) (by decide) (by decide) ht, (H10.out.1).a.keep (H10.out.2.2.2) (by decide) (by decide) ht⟩; clear hom hr ht)
            clear C H10 y0 y1 y2 y3 y4 y5 y6
            have H11 : Hid (So w (w5.alloc (.cells #[.int .i64 aa.code, .bool aa.found, .string aa.k, .string aa.v] 35)) mp r2 M2 ∧ At (w5.alloc (.cells #[.int .i64 aa.code, .bool aa.found, .string aa.k, .string aa.v] 35)) g8 (.cells #[.int .u8 1, .string key, .string ⟨#[]⟩, .string ⟨#[]⟩, .bool false, .bool false, .slice none 0 0] 39 (0, 0)) ∧ At (w5.alloc (.cells #[.int .i64 aa.code, .bool aa.found, .string aa.k, .string aa.v] 35)) g10 (.cells #[.int .u8 kd, .string k, .string v, .string ov, .bool had, .bool aft, .slice A3 ws.length cap3] 39 (0, 0)) ∧ At (w5.alloc (.cells #[.int .i64 aa.code, .bool aa.found, .string aa.k, .string aa.v] 35)) g11 (.cells #[.int .i64 wa.code, .bool wa.found, .string wa.k, .string wa.v] 35 (0, 0)) ∧ At (w5.alloc (.cells #[.int .i64 aa.code, .bool aa.found, .string aa.k, .string aa.v] 35)) w5.heap.size (.cells #[.int .i64 aa.code, .bool aa.found, .string aa.k, .string aa.v] 35 (0, 0))) := Lib.hid ⟨(H5.out.1).no ((Turn.refl _ _).alloc _), (H5.out.2.1).no ((Turn.refl _ _).alloc _), (H5.out.2.2.1).no ((Turn.refl _ _).alloc _), (H5.out.2.2.2).no ((Turn.refl _ _).alloc _), At.new _ _⟩
            generalize w5.alloc (.cells #[.int .i64 aa.code, .bool aa.found, .string aa.k, .string aa.v] 35) = w7 at H11 ⊢
            generalize w5.heap.size = g12 at H11 ⊢
            clear H5
            have C := Lib.hid (om_do H11.out.1.a H11.out.1.tu 1 key ⟨#[]⟩ ⟨#[]⟩ false false none 0 [] (Row.nil _ _) ⟨HF.out.2, by decide, by decide, by decide, by simp⟩ (by have := HL.out; omega) (a := ia) HA.out.2.2.2 (doM_get _ _ _ _ _ _ _))
            simp only [List.length_nil] at C
            have y0 := (H11.out.2.1).cell 0
            have y1 := (H11.out.2.1).cell 1
            have y2 := (H11.out.2.1).cell 2
            have y3 := (H11.out.2.1).cell 3
            have y4 := (H11.out.2.1).cell 4
            have y5 := (H11.out.2.1).cell 5
            have y6 := (H11.out.2.1).cell 6
            simp at y0 y1 y2 y3 y4 y5 y6
            go_upto_region 12 with (go_at_call 16; refine C.out.mono ?_; rintro e w5 ⟨rfl, r3, hom, hr, ht⟩; have H5 : Hid (So w w5 mp r3 M2 ∧ At w5 g8 (.cells #[.int .u8 1, .string key, .string ⟨#[]⟩, .string ⟨#[]⟩, .bool false, .bool false, .slice none 0 0] 39 (0, 0)) ∧ At w5 g10 (.cells #[.int .u8 kd, .string k, .string v, .string ov, .bool had, .bool aft, .slice A3 ws.length cap3] 39 (0, 0)) ∧ At w5 g11 (.cells #[.int .i64 wa.code, .bool wa.found, .string wa.k, .string wa.v] 35 (0, 0)) ∧ At w5 g12 (.cells #[.int .i64 aa.code, .bool aa.found, .string aa.k, .string aa.v] 35 (0, 0))) := Lib.hid ⟨⟨hom, turn_mp (H11.out.1).a (H11.out.1).tu ht⟩, (H11.out.1).a.keep (H11.out.2.1) (by decide) (by decide) ht, (H11.out.1).a.keep (H11.out.2.2.1) (by decide) (by decide) ht, (H11.out.1).a.keep (H11.out.2.2.2.1) (by decide) (by decide) ht, (H11.out.1).a.keep (H11.out.2.2.2.2) (by decide) (by decide) ht⟩; clear hom hr ht)
            clear C H11 y0 y1 y2 y3 y4 y5 y6
            have H12 : Hid (So w (w5.alloc (.cells #[.int .i64 ia.code, .bool ia.found, .string ia.k, .string ia.v] 35)) mp r3 M2 ∧ At (w5.alloc (.cells #[.int .i64 ia.code, .bool ia.found, .string ia.k, .string ia.v] 35)) g8 (.cells #[.int .u8 1, .string key, .string ⟨#[]⟩, .string ⟨#[]⟩, .bool false, .bool false, .slice none 0 0] 39 (0, 0)) ∧ At (w5.alloc (.cells #[.int .i64 ia.code, .bool ia.found, .string ia.k, .string ia.v] 35)) g10 (.cells #[.int .u8 kd, .string k, .string v, .string ov, .bool had, .bool aft, .slice A3 ws.length cap3] 39 (0, 0)) ∧ At (w5.alloc (.cells #[.int .i64 ia.code, .bool ia.found, .string ia.k, .string ia.v] 35)) g11 (.cells #[.int .i64 wa.code, .bool wa.found, .string wa.k, .string wa.v] 35 (0, 0)) ∧ At (w5.alloc (.cells #[.int .i64 ia.code, .bool ia.found, .string ia.k, .string ia.v] 35)) g12 (.cells #[.int .i64 aa.code, .bool aa.found, .string aa.k, .string aa.v] 35 (0, 0)) ∧ At (w5.alloc (.cells #[.int .i64 ia.code, .bool ia.found, .string ia.k, .string ia.v] 35)) w5.heap.size (.cells #[.int .i64 ia.code, .bool ia.found, .string ia.k, .string ia.v] 35 (0, 0))) := Lib.hid ⟨(H5.out.1).no ((Turn.refl _ _).alloc _), (H5.out.2.1).no ((Turn.refl _ _).alloc _), (H5.out.2.2.1).no ((Turn.refl _ _).alloc _), (H5.out.2.2.2.1).no ((Turn.refl _ _).alloc _), (H5.out.2.2.2.2).no ((Turn.refl _ _).alloc _), At.new _ _⟩
            generalize w5.alloc (.cells #[.int .i64 ia.code, .bool ia.found, .string ia.k, .string ia.v] 35) = w8 at H12 ⊢
            generalize w5.heap.size = g13 at H12 ⊢
            clear H5
            have y0 := (H12.out.2.2.1).cell 0
            have y1 := (H12.out.2.2.1).cell 1
            have y2 := (H12.out.2.2.1).cell 2
            have y3 := (H12.out.2.2.1).cell 3
            have y4 := (H12.out.2.2.1).cell 4
            have y5 := (H12.out.2.2.1).cell 5
            have y6 := (H12.out.2.2.1).cell 6
            simp at y0 y1 y2 y3 y4 y5 y6
            have HNO : Hid (nmB kd k ws key = false ∨ aa.code ≠ 0 → ia = wa) := Lib.hid fun e => by
              have h1 := HA.out.2.1
              have h2 := getA_no (M := M) (kind := kd) (k := k) (v := v) (o := ov) (had := had) (aft := aft) (ws := ws) (key := key) (e.imp id (fun e => by rw [← doA_code M kd k v ov had aft ws, h1]; exact e))
              rw [HA.out.1, HA.out.2.2.1, HA.out.2.2.2] at h2
              exact h2
            have HFIN : Hid (∀ W, Turn No w8 W → ∃ r M, So w W mp r M ∧ M.length ≤ 100 + 50 * (ii + 1) ∧ At W g8 (.cells #[.int .u8 1, .string key, .string ⟨#[]⟩, .string ⟨#[]⟩, .bool false, .bool false, .slice none 0 0] 39 (0, 0))) := Lib.hid fun W t => ⟨_, _, H12.out.1.no t, HL.out.2, H12.out.2.1.no t⟩
            have HB0 : Hid (Turn No w w8) := Lib.hid H12.out.1.tu
            have HBX : Hid (At w8 g10 (.cells #[.int .u8 kd, .string k, .string v, .string ov, .bool had, .bool aft, .slice A3 ws.length cap3] 39 (0, 0)) ∧ At w8 g11 (.cells #[.int .i64 wa.code, .bool wa.found, .string wa.k, .string wa.v] 35 (0, 0)) ∧ At w8 g12 (.cells #[.int .i64 aa.code, .bool aa.found, .string aa.k, .string aa.v] 35 (0, 0)) ∧ At w8 g13 (.cells #[.int .i64 ia.code, .bool ia.found, .string ia.k, .string ia.v] 35 (0, 0))) := Lib.hid H12.out.2.2
            clear H12
            go_cut [14] from 49 to 68 (fun s wx => s = .bool (nm0 kd k key) ∧ w8 = wx)
            case first =>
              have qe := bytes_beq k key
              by_cases hk : k = key
              · rw [decide_eq_true hk] at qe
                by_cases e2 : kd = 2
                · subst e2
                  go_upto_region 13 with fail
                  go_meet
                  exact ⟨by simp [nm0, hk], rfl⟩
                · by_cases e3 : kd = 3
                  · subst e3
                    go_upto_region 13 with fail
                    go_meet
                    exact ⟨by simp [nm0, hk], rfl⟩
                  · by_cases e4 : kd = 4
                    · subst e4
                      go_upto_region 13 with fail
                      go_meet
                      exact ⟨by simp [nm0, hk], rfl⟩
                    · have b2 : (kd == 2) = false := by simpa using e2
                      have b3 : (kd == 3) = false := by simpa using e3
                      have b4 : (kd == 4) = false := by simpa using e4
                      go_upto_region 13 with fail
                      go_meet
                      exact ⟨by simp [nm0, e2, e3, e4], rfl⟩
              · rw [decide_eq_false hk] at qe
                go_upto_region 13 with fail
                go_meet
                exact ⟨by simp [nm0, hk], rfl⟩
            case rest =>
              obtain ⟨rfl, rfl⟩ := hcut
              obtain ⟨n0, hn0⟩ : ∃ n0, nm0 kd k key = n0 := ⟨_, rfl⟩
              have HN0 := Lib.hid hn0
              rw [hn0]
              clear hn0
              go_wp2_with fail
              go_loopw [14, 15] (fun s x wz => ∃ j : Nat, j ≤ ws.length ∧ s = .bool (n0 || (decide (kd = 6) && (ws.take j).any (fun x => decide (x.k = key)))) ∧ x = .int .i64 (j : Int) ∧ w8 = wz) (fun _ x _ => ws.length - (RowKit.intOf x).toNat)
              case atStart => exact ⟨0, Nat.zero_le _, by simp, rfl, rfl⟩
              case round =>
                obtain ⟨j, hj, rfl, rfl, rfl⟩ := hrel
                by_cases hjl : j < ws.length
                · as_aux_lemma =>
                    obtain ⟨y, hy⟩ : ∃ y, ws[j]? = some y := ⟨ws[j], List.getElem?_eq_getElem hjl⟩
                    have hst := nm_step (kind := kd) (k := k) (key := key) hy
                    rw [HN0.out] at hst
                    obtain ⟨b3, o3, hA3, _, z0, z1, z2⟩ := (HIN.out.1.row.row.turn HB0.out fun _ _ _ h => h).wr hy
                    obtain ⟨yk, yv, yg⟩ := y
                    simp only at hst z0 hA3
                    subst hA3
                    have hr1 : (0 : Int) ≤ (j : Int) := by omega
                    have hr2 : (j : Int) < (ws.length : Int) := by omega
                    have qe := bytes_beq yk key
                    generalize hcb : (n0 || (decide (kd = 6) && (ws.take j).any (fun x => decide (x.k = key)))) = cb at hst ⊢
                    have HST := Lib.hid hst
                    clear hy hst hcb z1 z2
                    cases cb with
                    | true =>
                      go_wp2_with fail
                      exact ⟨⟨j + 1, by omega, by rw [HST.out]; rfl, by go_num, trivial⟩, by simp [RowKit.intOf]; omega⟩
                    | false =>
                      by_cases e6 : kd = 6
                      · subst e6
                        by_cases hyk : yk = key
                        · rw [decide_eq_true hyk] at qe
                          go_wp2_with fail
                          exact ⟨⟨j + 1, by omega, congrArg Value.bool ((HST.out.trans (by rw [decide_eq_true hyk]; rfl)).symm), by go_num, trivial⟩, by simp [RowKit.intOf]; omega⟩
                        · rw [decide_eq_false hyk] at qe
                          go_wp2_with fail
                          exact ⟨⟨j + 1, by omega, congrArg Value.bool ((HST.out.trans (by rw [decide_eq_false hyk]; rfl)).symm), by go_num, trivial⟩, by simp [RowKit.intOf]; omega⟩
                      · have b6 : (kd == 6) = false := by simpa using e6
                        go_wp2_with fail
                        exact ⟨⟨j + 1, by omega, by rw [HST.out, decide_eq_false e6]; rfl, by go_num, trivial⟩, by simp [RowKit.intOf]; omega⟩
                · obtain rfl : j = ws.length := by omega
                  rw [List.take_length]
                  have HNM : Hid (nmB kd k ws key = (n0 || (decide (kd = 6) && ws.any (fun x => decide (x.k = key))))) := Lib.hid (by rw [← HN0.out]; rfl)
                  generalize (n0 || (decide (kd = 6) && ws.any (fun x => decide (x.k = key)))) = nm at HNM ⊢
                  cases nm with
                  | false =>
                    as_aux_lemma =>
                      have hia := HNO.out (.inl HNM.out)
                      rw [hia] at HBX
                      have z0 := (HBX.out.2.1).cell 0
                      have z1 := (HBX.out.2.1).cell 1
                      have z2 := (HBX.out.2.1).cell 2
                      have z3 := (HBX.out.2.1).cell 3
                      simp at z0 z1 z2 z3
                      have t0 := (HBX.out.2.2.2).cell 0
                      have t1 := (HBX.out.2.2.2).cell 1
                      have t2 := (HBX.out.2.2.2).cell 2
                      have t3 := (HBX.out.2.2.2).cell 3
                      simp at t0 t1 t2 t3
                      have qn := fun W => neq_ans wa.code wa.code wa.found wa.found wa.k wa.k wa.v wa.v W
                      rw [ansEq_same] at qn
                      clear hia
                      go_wp2_with fail
                      exact ⟨⟨ii + 1, by omega, by go_num, Lib.hid (HFIN.out _ (Turn.refl _ _))⟩, by simp [RowKit.intOf]; omega⟩
                  | true =>
                    by_cases hc : aa.code = 0
                    · have HC := Lib.hid hc
                      have HREF : Hid (refO kd k v ov had ws = 0) := Lib.hid (by rw [← doA_code M kd k v ov had aft ws, HA.out.2.1]; exact hc)
                      have uu := (HBX.out.2.2.1).cell 0
                      simp at uu
                      rw [hc] at uu
                      clear hc
                      by_cases e2 : kd = 2
                      · subst e2
                        as_aux_lemma =>
                          have hkk : k = key := by
                            have := HNM.out
                            simp [nmB, nm0] at this
                            exact this
                          subst hkk
                          have h := las2 (M := M) (aft := aft) HREF.out
                          rw [HA.out.1, HA.out.2.1, HA.out.2.2.1, HA.out.2.2.2] at h
                          rw [h.1, h.2] at HBX
                          simp only at HBX
                          have z0 := (HBX.out.2.1).cell 0
                          have z1 := (HBX.out.2.1).cell 1
                          have z2 := (HBX.out.2.1).cell 2
                          have z3 := (HBX.out.2.1).cell 3
                          simp at z0 z1 z2 z3
                          have u0 := (HBX.out.2.2.1).cell 0
                          have u1 := (HBX.out.2.2.1).cell 1
                          have u2 := (HBX.out.2.2.1).cell 2
                          have u3 := (HBX.out.2.2.1).cell 3
                          simp at u0 u1 u2 u3
                          have t0 := (HBX.out.2.2.2).cell 0
                          have t1 := (HBX.out.2.2.2).cell 1
                          have t2 := (HBX.out.2.2.2).cell 2
                          have t3 := (HBX.out.2.2.2).cell 3
                          simp at t0 t1 t2 t3
                          have qe1 := bytes_beq v v
                          have qe2 := bytes_beq wa.v wa.v
                          rw [decide_eq_true rfl] at qe1 qe2
                          have u0z : wa.code = 0 := by rw [← h.2]; exact HC.out
                          rw [u0z] at u0 z0
                          clear h
                          go_wp2_with fail
                          exact ⟨⟨ii + 1, by omega, by go_num, Lib.hid (HFIN.out _ (Turn.refl _ _))⟩, by simp [RowKit.intOf]; omega⟩
                      · have qk : (kd == 2) = false := by simpa using e2
                        by_cases e3 : kd = 3
                        · subst e3
                          as_aux_lemma =>
                            have hkk : k = key := by
                              have := HNM.out
                              simp [nmB, nm0] at this
                              exact this
                            subst hkk
                            have h := las3 (M := M) (aft := aft) HREF.out
                            rw [HA.out.1, HA.out.2.1, HA.out.2.2.1, HA.out.2.2.2] at h
                            rw [h.1, h.2] at HBX
                            simp only at HBX
                            have z0 := (HBX.out.2.1).cell 0
                            have z1 := (HBX.out.2.1).cell 1
                            have z2 := (HBX.out.2.1).cell 2
                            have z3 := (HBX.out.2.1).cell 3
                            simp at z0 z1 z2 z3
                            have u0 := (HBX.out.2.2.1).cell 0
                            have u1 := (HBX.out.2.2.1).cell 1
                            have u2 := (HBX.out.2.2.1).cell 2
                            have u3 := (HBX.out.2.2.1).cell 3
                            simp at u0 u1 u2 u3
                            have t0 := (HBX.out.2.2.2).cell 0
                            have t1 := (HBX.out.2.2.2).cell 1
                            have t2 := (HBX.out.2.2.2).cell 2
                            have t3 := (HBX.out.2.2.2).cell 3
                            simp at t0 t1 t2 t3
                            have qe2 := bytes_beq wa.v wa.v
                            rw [decide_eq_true rfl] at qe2
                            have qn := fun W => neq_ans 0 0 false false ⟨#[]⟩ ⟨#[]⟩ ⟨#[]⟩ ⟨#[]⟩ W
                            rw [ansEq_same] at qn
                            have u0z : wa.code = 0 := by rw [← h.2]; exact HC.out
                            rw [u0z] at u0 z0
                            clear h
                            go_wp2_with fail
                            exact ⟨⟨ii + 1, by omega, by go_num, Lib.hid (HFIN.out _ (Turn.refl _ _))⟩, by simp [RowKit.intOf]; omega⟩
                        · by_cases e4 : kd = 4
                          · subst e4
                            have hkk : k = key := by
                              have := HNM.out
                              simp [nmB, nm0] at this
                              exact this
                            subst hkk
                            have h := las4 (M := M) (aft := aft) HREF.out
                            rw [HA.out.1, HA.out.2.1, HA.out.2.2.1, HA.out.2.2.2] at h
                            obtain ⟨gl, hgl⟩ : ∃ gl, getL M k = gl := ⟨_, rfl⟩
                            unfold swD at h
                            rw [hgl] at h
                            have HH := Lib.hid h
                            clear h hgl
                            cases gl with
                            | none =>
                              cases had with
                              | true =>
                                as_aux_lemma =>
                                  have ha1 : wa = (⟨0, false, ⟨#[]⟩, ⟨#[]⟩⟩ : Ans) := HH.out.1
                                  have ha2 : aa = (⟨0, false, ⟨#[]⟩, ⟨#[]⟩⟩ : Ans) := by rw [HH.out.2.1]; simp
                                  have ha3 : ia = (⟨0, false, ⟨#[]⟩, ⟨#[]⟩⟩ : Ans) := by rw [HH.out.2.2]; simp [gans]
                                  rw [ha1, ha2, ha3] at HBX
                                  simp only at HBX
                                  have z0 := (HBX.out.2.1).cell 0
                                  have z1 := (HBX.out.2.1).cell 1
                                  have z2 := (HBX.out.2.1).cell 2
                                  have z3 := (HBX.out.2.1).cell 3
                                  simp at z0 z1 z2 z3
                                  have u0 := (HBX.out.2.2.1).cell 0
                                  have u1 := (HBX.out.2.2.1).cell 1
                                  have u2 := (HBX.out.2.2.1).cell 2
                                  have u3 := (HBX.out.2.2.1).cell 3
                                  simp at u0 u1 u2 u3
                                  have t0 := (HBX.out.2.2.2).cell 0
                                  have t1 := (HBX.out.2.2.2).cell 1
                                  have t2 := (HBX.out.2.2.2).cell 2
                                  have t3 := (HBX.out.2.2.2).cell 3
                                  simp at t0 t1 t2 t3
                                  have qe1 := bytes_beq v v
                                  have qe2 := bytes_beq (⟨#[]⟩ : ByteArray) (⟨#[]⟩ : ByteArray)
                                  rw [decide_eq_true rfl] at qe1 qe2
                                  have qn := fun W => neq_ans 0 0 false false ⟨#[]⟩ ⟨#[]⟩ ⟨#[]⟩ ⟨#[]⟩ W
                                  rw [ansEq_same] at qn
                                  clear ha1 ha2 ha3
                                  go_wp2_with fail
                                  exact ⟨⟨ii + 1, by omega, by go_num, Lib.hid (HFIN.out _ (Turn.refl _ _))⟩, by simp [RowKit.intOf]; omega⟩
                              | false =>
                                as_aux_lemma =>
                                  have ha1 : wa = (⟨0, false, ⟨#[]⟩, ⟨#[]⟩⟩ : Ans) := HH.out.1
                                  have ha2 : aa = (⟨0, true, ⟨#[]⟩, ⟨#[]⟩⟩ : Ans) := by rw [HH.out.2.1]; simp
                                  have ha3 : ia = (⟨0, true, ⟨#[]⟩, v⟩ : Ans) := by rw [HH.out.2.2]; simp [gans]
                                  rw [ha1, ha2, ha3] at HBX
                                  simp only at HBX
                                  have z0 := (HBX.out.2.1).cell 0
                                  have z1 := (HBX.out.2.1).cell 1
                                  have z2 := (HBX.out.2.1).cell 2
                                  have z3 := (HBX.out.2.1).cell 3
                                  simp at z0 z1 z2 z3
                                  have u0 := (HBX.out.2.2.1).cell 0
                                  have u1 := (HBX.out.2.2.1).cell 1
                                  have u2 := (HBX.out.2.2.1).cell 2
                                  have u3 := (HBX.out.2.2.1).cell 3
                                  simp at u0 u1 u2 u3
                                  have t0 := (HBX.out.2.2.2).cell 0
                                  have t1 := (HBX.out.2.2.2).cell 1
                                  have t2 := (HBX.out.2.2.2).cell 2
                                  have t3 := (HBX.out.2.2.2).cell 3
                                  simp at t0 t1 t2 t3
                                  have qe1 := bytes_beq v v
                                  have qe2 := bytes_beq (⟨#[]⟩ : ByteArray) (⟨#[]⟩ : ByteArray)
                                  rw [decide_eq_true rfl] at qe1 qe2
                                  clear ha1 ha2 ha3
                                  go_wp2_with fail
                                  exact ⟨⟨ii + 1, by omega, by go_num, Lib.hid (HFIN.out _ (Turn.refl _ _))⟩, by simp [RowKit.intOf]; omega⟩
                            | some gv =>
                              cases had with
                              | true =>
                                by_cases hgo : gv = ov
                                · subst hgo
                                  as_aux_lemma =>
                                    have ha1 : wa = (⟨0, true, ⟨#[]⟩, gv⟩ : Ans) := HH.out.1
                                    have ha2 : aa = (⟨0, true, ⟨#[]⟩, gv⟩ : Ans) := by rw [HH.out.2.1]; simp
                                    have ha3 : ia = (⟨0, true, ⟨#[]⟩, v⟩ : Ans) := by rw [HH.out.2.2]; simp [gans]
                                    rw [ha1, ha2, ha3] at HBX
                                    simp only at HBX
                                    have z0 := (HBX.out.2.1).cell 0
                                    have z1 := (HBX.out.2.1).cell 1
                                    have z2 := (HBX.out.2.1).cell 2
                                    have z3 := (HBX.out.2.1).cell 3
                                    simp at z0 z1 z2 z3
                                    have u0 := (HBX.out.2.2.1).cell 0
                                    have u1 := (HBX.out.2.2.1).cell 1
                                    have u2 := (HBX.out.2.2.1).cell 2
                                    have u3 := (HBX.out.2.2.1).cell 3
                                    simp at u0 u1 u2 u3
                                    have t0 := (HBX.out.2.2.2).cell 0
                                    have t1 := (HBX.out.2.2.2).cell 1
                                    have t2 := (HBX.out.2.2.2).cell 2
                                    have t3 := (HBX.out.2.2.2).cell 3
                                    simp at t0 t1 t2 t3
                                    have qe1 := bytes_beq v v
                                    have qe2 := bytes_beq gv gv
                                    rw [decide_eq_true rfl] at qe1 qe2
                                    clear ha1 ha2 ha3
                                    go_wp2_with fail
                                    exact ⟨⟨ii + 1, by omega, by go_num, Lib.hid (HFIN.out _ (Turn.refl _ _))⟩, by simp [RowKit.intOf]; omega⟩
                                · have qo := bytes_beq gv ov
                                  rw [decide_eq_false hgo] at qo
                                  as_aux_lemma =>
                                    have ha1 : wa = (⟨0, true, ⟨#[]⟩, gv⟩ : Ans) := HH.out.1
                                    have ha2 : aa = (⟨0, false, ⟨#[]⟩, gv⟩ : Ans) := by rw [HH.out.2.1]; simp [hgo]
                                    have ha3 : ia = (⟨0, true, ⟨#[]⟩, gv⟩ : Ans) := by rw [HH.out.2.2]; simp [gans, hgo]
                                    rw [ha1, ha2, ha3] at HBX
                                    simp only at HBX
                                    have z0 := (HBX.out.2.1).cell 0
                                    have z1 := (HBX.out.2.1).cell 1
                                    have z2 := (HBX.out.2.1).cell 2
                                    have z3 := (HBX.out.2.1).cell 3
                                    simp at z0 z1 z2 z3
                                    have u0 := (HBX.out.2.2.1).cell 0
                                    have u1 := (HBX.out.2.2.1).cell 1
                                    have u2 := (HBX.out.2.2.1).cell 2
                                    have u3 := (HBX.out.2.2.1).cell 3
                                    simp at u0 u1 u2 u3
                                    have t0 := (HBX.out.2.2.2).cell 0
                                    have t1 := (HBX.out.2.2.2).cell 1
                                    have t2 := (HBX.out.2.2.2).cell 2
                                    have t3 := (HBX.out.2.2.2).cell 3
                                    simp at t0 t1 t2 t3
                                    have qe1 := bytes_beq v v
                                    have qe2 := bytes_beq gv gv
                                    rw [decide_eq_true rfl] at qe1 qe2
                                    have qn := fun W => neq_ans 0 0 true true ⟨#[]⟩ ⟨#[]⟩ gv gv W
                                    rw [ansEq_same] at qn
                                    clear ha1 ha2 ha3
                                    go_wp2_with fail
                                    exact ⟨⟨ii + 1, by omega, by go_num, Lib.hid (HFIN.out _ (Turn.refl _ _))⟩, by simp [RowKit.intOf]; omega⟩
                              | false =>
                                as_aux_lemma =>
                                  have ha1 : wa = (⟨0, true, ⟨#[]⟩, gv⟩ : Ans) := HH.out.1
                                  have ha2 : aa = (⟨0, false, ⟨#[]⟩, gv⟩ : Ans) := by rw [HH.out.2.1]; simp
                                  have ha3 : ia = (⟨0, true, ⟨#[]⟩, gv⟩ : Ans) := by rw [HH.out.2.2]; simp [gans]
                                  rw [ha1, ha2, ha3] at HBX
                                  simp only at HBX
                                  have z0 := (HBX.out.2.1).cell 0
                                  have z1 := (HBX.out.2.1).cell 1
                                  have z2 := (HBX.out.2.1).cell 2
                                  have z3 := (HBX.out.2.1).cell 3
                                  simp at z0 z1 z2 z3
                                  have u0 := (HBX.out.2.2.1).cell 0
                                  have u1 := (HBX.out.2.2.1).cell 1
                                  have u2 := (HBX.out.2.2.1).cell 2
                                  have u3 := (HBX.out.2.2.1).cell 3
                                  simp at u0 u1 u2 u3
                                  have t0 := (HBX.out.2.2.2).cell 0
                                  have t1 := (HBX.out.2.2.2).cell 1
                                  have t2 := (HBX.out.2.2.2).cell 2
                                  have t3 := (HBX.out.2.2.2).cell 3
                                  simp at t0 t1 t2 t3
                                  have qe1 := bytes_beq v v
                                  have qe2 := bytes_beq gv gv
                                  rw [decide_eq_true rfl] at qe1 qe2
                                  have qn := fun W => neq_ans 0 0 true true ⟨#[]⟩ ⟨#[]⟩ gv gv W
                                  rw [ansEq_same] at qn
                                  clear ha1 ha2 ha3
                                  go_wp2_with fail
                                  exact ⟨⟨ii + 1, by omega, by go_num, Lib.hid (HFIN.out _ (Turn.refl _ _))⟩, by simp [RowKit.intOf]; omega⟩
                          · by_cases e6 : kd = 6
                            · subst e6
                              have hm6 := HNM.out
                              clear qk
                              go_wp2_with fail
                              go_loopw [16] (fun x wz => ∃ kk : Nat, kk ≤ ws.length ∧ x = .int .i64 ((kk : Int) - 1) ∧ w8 = wz ∧ Hid (∀ y ∈ ws.drop kk, y.k ≠ key)) (fun x _ => (RowKit.intOf x + 1).toNat)
                              case atStart => exact ⟨ws.length, Nat.le_refl _, by go_num, rfl, Lib.hid (by simp)⟩
                              case round =>
                                obtain ⟨kk, hkk, rfl, rfl, HD⟩ := hrel
                                by_cases h0 : 0 < kk
                                · as_aux_lemma =>
                                    obtain ⟨j, rfl⟩ : ∃ j, kk = j + 1 := ⟨kk - 1, by omega⟩
                                    rw [show (((j + 1 : Nat) : Int) - 1) = (j : Int) by omega]
                                    obtain ⟨y, hy⟩ : ∃ y, ws[j]? = some y := ⟨ws[j]'(by omega), List.getElem?_eq_getElem (by omega)⟩
                                    obtain ⟨b3, o3, hA3, _, z0, z1, z2⟩ := (HIN.out.1.row.row.turn HB0.out fun _ _ _ h => h).wr hy
                                    have HDD : Hid (y.k ≠ key → ∀ z ∈ ws.drop j, z.k ≠ key) := Lib.hid fun e z hz => by
                                      rw [List.drop_eq_getElem_cons (by omega), ] at hz
                                      rcases List.mem_cons.1 hz with h | h
                                      · have := (List.getElem?_eq_some_iff.1 hy).2
                                        rw [h, this]; exact e
                                      · exact HD.out z h
                                    have HL6 : Hid (y.k = key → ia.found = !y.gone ∧ (y.gone = false → ia.v = y.v)) := Lib.hid fun e => by
                                      have h := las6 (M := M) (aft := aft) HREF.out hy e HD.out
                                      rw [HA.out.1, HA.out.2.2.2] at h
                                      exact h
                                    obtain ⟨yk, yv, yg⟩ := y
                                    simp only at z0 z1 z2 HDD HL6 hA3
                                    subst hA3
                                    have hr1 : (0 : Int) ≤ (j : Int) := by omega
                                    have hr2 : (j : Int) < (ws.length : Int) := by omega
                                    have qe := bytes_beq yk key
                                    clear hy
                                    by_cases hyk : yk = key
                                    · rw [decide_eq_true hyk] at qe
                                      have h6 := HL6.out hyk
                                      have t0 := (HBX.out.2.2.2).cell 0
                                      have t1 := (HBX.out.2.2.2).cell 1
                                      have t2 := (HBX.out.2.2.2).cell 2
                                      have t3 := (HBX.out.2.2.2).cell 3
                                      simp at t0 t1 t2 t3
                                      cases yg with
                                      | true =>
                                        have f1 : ia.found = false := h6.1
                                        rw [f1] at t1
                                        clear h6 hyk f1
                                        go_wp2_with fail
                                        go_quiet (fail)
                                        all_goals go_wp2_with fail
                                        all_goals exact ⟨⟨ii + 1, by omega, by go_num, Lib.hid (HFIN.out _ ((Turn.refl _ _).drewN _))⟩, by simp [RowKit.intOf]; omega⟩
                                      | false =>
                                        have f1 : ia.found = true := h6.1
                                        have f2 : ia.v = yv := h6.2 rfl
                                        rw [f1] at t1
                                        rw [f2] at t3
                                        have qe2 := bytes_beq yv yv
                                        rw [decide_eq_true rfl] at qe2
                                        clear h6 hyk f1 f2
                                        go_wp2_with fail
                                        go_quiet (fail)
                                        all_goals go_wp2_with fail
                                        all_goals exact ⟨⟨ii + 1, by omega, by go_num, Lib.hid (HFIN.out _ ((Turn.refl _ _).drewN _))⟩, by simp [RowKit.intOf]; omega⟩
                                    · rw [decide_eq_false hyk] at qe
                                      have HE := Lib.hid (HDD.out hyk)
                                      clear hyk
                                      go_wp2_with fail
                                      exact ⟨⟨j, by omega, by go_num, trivial, HE⟩, by simp [RowKit.intOf] <;> omega⟩
                                · obtain rfl : kk = 0 := by omega
                                  rw [show (((0 : Nat) : Int) - 1) = -1 by omega]
                                  clear h0
                                  go_wp2_with fail
                                  exact ⟨⟨ii + 1, by omega, by go_num, Lib.hid (HFIN.out _ (Turn.refl _ _))⟩, by simp [RowKit.intOf]; omega⟩
                            · exfalso
                              have := HNM.out
                              simp [nmB, nm0, e2, e3, e4, e6] at this
                    · as_aux_lemma =>
                        have hia := HNO.out (.inr hc)
                        have uu := (HBX.out.2.2.1).cell 0
                        simp at uu
                        have hcb : (aa.code == 0) = false := by simpa using hc
                        have hcn : (aa.code != 0) = true := by simpa using hc
                        rw [hia] at HBX
                        have z0 := (HBX.out.2.1).cell 0
                        have z1 := (HBX.out.2.1).cell 1
                        have z2 := (HBX.out.2.1).cell 2
                        have z3 := (HBX.out.2.1).cell 3
                        simp at z0 z1 z2 z3
                        have t0 := (HBX.out.2.2.2).cell 0
                        have t1 := (HBX.out.2.2.2).cell 1
                        have t2 := (HBX.out.2.2.2).cell 2
                        have t3 := (HBX.out.2.2.2).cell 3
                        simp at t0 t1 t2 t3
                        have qn := fun W => neq_ans wa.code wa.code wa.found wa.found wa.k wa.k wa.v wa.v W
                        rw [ansEq_same] at qn
                        clear hia
                        go_wp2_with fail
                        exact ⟨⟨ii + 1, by omega, by go_num, Lib.hid (HFIN.out _ (Turn.refl _ _))⟩, by simp [RowKit.intOf]; omega⟩
        · obtain rfl : ii = ops.length := by omega
          have hML := HS.out.2.1
          have CA := Lib.hid (walks_any HS.out.1 (by omega))
          clear hML
          go_wp2_with (first | (go_at_call 22; (with_reducible refine CA.out.mono ?_); rintro e w6 ⟨rfl, ht⟩; have H6 := Lib.hid ht; clear ht) | (go_at_call 10; refine (CW.out _).mono ?_; rintro e w7 ⟨rfl, ht⟩))
          go_ret
          exact ⟨rfl, H6.out.trans ht⟩
end Go.Proofs.Ytjjmooegpoeomaa
