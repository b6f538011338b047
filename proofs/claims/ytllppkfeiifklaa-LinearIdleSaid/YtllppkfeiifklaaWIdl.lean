/-
  The law LinearIdle: operations that found no room are as if they were not there.
-/
import Derived.Test.YtllppkfeiifklaaIdm
import Derived.Test.YtllppkfeiifklaaJ39
import Derived.Test.YtllppkfeiifklaaJ38
namespace Go.Proofs.Ytllppkfeiifklaa
open Go.RowKit Go.Lib
set_option linter.unusedVariables false
set_option maxRecDepth 20000
set_option linter.unusedSimpArgs false

/-- A row of events of the law's own; its writes are shared. -/
structure Oe (w wr : World) (L : List Ev) (B : Option Addr) (c : Nat) : Prop where
  tu : Turn No w wr
  row : wr.ownsRow w.heap.size 40 13 (.slice B L.length c) L.length (ecs L)
section
variable {w wr w2 : World} {L : List Ev} {B : Option Addr} {c : Nat}
theorem Oe.no (h : Oe w wr L B c) (t : Turn No wr w2) : Oe w w2 L B c := ⟨h.tu.trans t, own_grown h.row t fun _ _ h => h⟩
theorem Oe.app (h : Oe w wr L B c) (hn : L.length ≤ 1000) (x : Ev) :
    ∃ B' c' w', AppRun 23 23 (.slice B L.length c) (.slice (some ⟨wr.heap.size, 0, none⟩) 1 1) (.slice B' (L.length + 1) c') (wr.alloc (.cells x.cs.toArray 40)) w' ∧ Oe w w' (L ++ [x]) B' c' := by
  have h2 := h.no ((Turn.refl No wr).alloc (.cells x.cs.toArray 40))
  have hn2 := At.new wr (.cells x.cs.toArray 40)
  obtain ⟨B', c', w', q, ho, ht2, hB⟩ := app_gen Try.underlying23 info34 rfl (by decide) (by decide) h2.row ⟨wr.heap.size, 0, none⟩ 1 1 x.cs rfl
    (fun j u hj => by rw [Addr.add_lit, Nat.zero_add, hn2.cell]; simpa using hj) (one_ev x) (by omega) h2.tu.size 23
  refine ⟨B', c', w', q, ⟨h2.tu.then ht2 (fun i hi hb => ?_), ?_⟩⟩
  · rw [own_ablk] at hb
    have := (own_at h2.row hb).1
    omega
  · rw [List.length_append, ecs_append]
    have e1 : ecs [x] = x.cs := by simp [ecs]
    rw [e1]
    exact ho
end
theorem keepL_take {l : List Ev} (k : Int → Bool) {i : Nat} {e : Ev} (h : l[i]? = some e) : keepL k (l.take (i + 1)) = keepL k (l.take i) ++ if k e.id = true then [e] else [] := by
  rw [List.take_add_one, h]
  exact keepL_snoc k _ e
theorem keepL_take_le (k : Int → Bool) (l : List Ev) (i : Nat) : (keepL k (l.take i)).length ≤ l.length := by
  have h1 := keepL_length k (l.take i)
  rw [List.length_take] at h1
  omega
set_option maxRecDepth 100000 in
set_option maxHeartbeats 16000000 in
theorem lidle_law (S : List Pr) (A : Option Addr) (cap : Nat) (l : List Ev) (ps : List (List Wr)) (B : Option Addr) (cap2 : Nat) (w : World) (hS : InP w A S.length cap S) (hE : Inq w B l.length cap2 l ps) :
    Calls Try.prog 8 #[.slice A S.length cap, .slice B l.length cap2] w fun e w' => e = .returned (.bool true) ∧ Turn No w w' := by
  have C9 := Lib.hid (great8_any S A cap l ps B cap2 w hS hE)
  have HS := Lib.hid (And.intro hS hE)
  have CW := Lib.hid fun (W : World) => wakes_any W
  clear hS hE
  go_enter Try.func8, Try.ntmps8
  go_upto_if 21 with (go_at_call 9; refine C9.out.mono ?_; rintro e w1 ⟨⟨bg, rfl, hg⟩, ht⟩; have H1 := Lib.hid (And.intro hg ht); clear hg ht)
  clear C9
  obtain ⟨br, hbr⟩ : ∃ x, x = bg := ⟨_, rfl⟩
  subst hbr
  cases br with
  | true =>
    go_wp2_with (go_at_call 10; refine (CW.out _).mono ?_; rintro e w2 ⟨rfl, ht⟩; have H2 := Lib.hid ht; clear ht)
    go_ret
    exact ⟨rfl, H1.out.2.trans H2.out⟩
  | false =>
    have hfew : S.length ≤ 100 ∧ FewE l ps := by first | exact H1.out.1 rfl | exact H1.out.1 trivial
    have HIN : Hid (InE w B cap2 l ps) := Lib.hid (HS.out.2.inE hfew.2)
    have hn := hfew.1
    have hll : l.length ≤ 200 := hfew.2.len
    have IPN : Hid (∀ W, Turn No w W → InP W A S.length cap S) := Lib.hid fun W t => ⟨HS.out.1.hlen, HS.out.1.hmax, HS.out.1.row.no t, HS.out.1.fit, HS.out.1.nil⟩
    have T1 := Lib.hid H1.out.2
    have C11 := Lib.hid fun (W : World) (t : Turn No w W) => lcheck_any S A cap l ps B cap2 W (IPN.out W t) hn (HIN.out.no t)
    have C17 := Lib.hid fun (W : World) (t : Turn No w W) => lafter_any S A cap l ps B cap2 W (IPN.out W t) hn (HIN.out.no t)
    have C21 := Lib.hid (check_any l B cap2 w1 (HIN.out.no T1.out).row HIN.out.ids (by omega))
    have C11R : Hid (∀ W, Turn No w W → ∀ (B2 : Option Addr) (c2 : Nat), InE W B2 c2 (restL l) (restW l ps) → Calls Try.prog 11 #[.slice A S.length cap, .slice B2 (restL l).length c2] W fun r w' => (∃ a c, r = .returned (.tuple #[.int .i64 a, .int .i64 c]) ∧ LinC (restL l) (restW l ps) (news S) a c) ∧ Turn No W w') := Lib.hid fun W t B2 c2 h => lcheck_any S A cap (restL l) (restW l ps) B2 c2 W (IPN.out W t) hn h
    have C17R : Hid (∀ W, Turn No w W → ∀ (B2 : Option Addr) (c2 : Nat), InE W B2 c2 (restL l) (restW l ps) → Calls Try.prog 17 #[.slice A S.length cap, .slice B2 (restL l).length c2] W fun r w' => ∃ X B c, r = .returned (.slice B X.length c) ∧ Row w' B (pcs X) ∧ Turn No W w' ∧ ((Right (restL l) ∧ X = lnM (restL l) (restW l ps) (news S) (restL l).length) ∨ (¬ Right (restL l) ∧ X = []))) := Lib.hid fun W t B2 c2 h => lafter_any S A cap (restL l) (restW l ps) B2 c2 W (IPN.out W t) hn h
    have HFW := Lib.hid hfew
    clear hfew H1
    go_upto_if 29 with (go_at_call 21; (with_reducible refine C21.out.mono ?_); rintro e w2 ⟨at_, code, rfl, hc, ht⟩; have H2 := Lib.hid (And.intro hc (T1.out.trans ht)); clear hc ht)
    clear C21 T1
    by_cases hz : code = 0
    · subst hz
      have hrt : Right l := by
        rcases H2.out.1 with ⟨h, _⟩ | ⟨n, _, _, h⟩
        · exact h
        · cases h
      have HRT := Lib.hid hrt
      have T2 := Lib.hid H2.out.2
      clear hrt H2
      have HL0 : Hid (Oe w w2 (keepL (stays l) (l.take 0)) none 0) := Lib.hid ⟨T2.out, World.ownsRow_nil _ _ _ _⟩
      go_wp2_with fail
      go_loopw [7, 8] (fun s x wr => ∃ (i : Nat) (Br : Option Addr) (c n : Nat), i ≤ l.length ∧ x = .int .i64 (i : Int) ∧ s = .slice Br n c ∧ Hid (Oe w wr (keepL (stays l) (l.take i)) Br c ∧ n = (keepL (stays l) (l.take i)).length)) (fun _ x _ => l.length - (RowKit.intOf x).toNat)
      case atStart => exact ⟨0, none, 0, 0, Nat.zero_le _, rfl, rfl, Lib.hid ⟨HL0.out, rfl⟩⟩
      case round =>
        obtain ⟨i, Br, cr, n, hi, rfl, rfl, HP⟩ := hrel
        clear HL0 T2
        by_cases hlt : i < l.length
        · obtain ⟨e, he⟩ : ∃ e, l[i]? = some e := ⟨l[i], List.getElem?_eq_getElem hlt⟩
          have hin := HIN.out.no HP.out.1.tu
          obtain ⟨b, off, hA, hb, hx⟩ := hin.row.ev he
          have x1 := hx 1 _ rfl
          have HX : Hid (∀ W, Turn No wr W → W.rangeAt b (off + i * 13) e.cs) := Lib.hid fun W t j u hj => (World.cell?_of_block (w := wr) (t.block b hb (fun h => h))).trans (hx j u hj)
          have HK : Hid (∀ f : Bool, stays l e.id = f → keepL (stays l) (l.take (i + 1)) = keepL (stays l) (l.take i) ++ if f = true then [e] else []) := Lib.hid fun f hf => by rw [keepL_take _ he, hf]
          have C22 := Lib.hid (state_any e.id l ps B cap2 wr hin.row hin.rws (by omega))
          have HLE := Lib.hid (keepL_take_le (stays l) l i)
          obtain ⟨sa, hsa⟩ : ∃ a, stA l e.id = a := ⟨_, rfl⟩
          obtain ⟨sn, hsn⟩ : ∃ a, stN l e.id = a := ⟨_, rfl⟩
          rw [hsa, hsn] at C22
          have HST : Hid (stays l e.id = !(decide (2 ≤ sn) && idleA sa)) := Lib.hid (by unfold stays; rw [hsa, hsn])
          obtain ⟨code, found, ak, av⟩ := sa
          obtain ⟨b5, hb5⟩ : ∃ x, ansEq code 5 found false ak ⟨#[]⟩ av ⟨#[]⟩ = x := ⟨_, rfl⟩
          obtain ⟨b6, hb6⟩ : ∃ x, ansEq code 6 found false ak ⟨#[]⟩ av ⟨#[]⟩ = x := ⟨_, rfl⟩
          rw [idle_eq, hb5, hb6] at HST
          have Q5 : Hid (∀ W : World, (binOp .eql 38 (.agg #[.int .i64 code, .bool found, .string ak, .string av]) (.agg #[.int .i64 5, .bool false, .string ⟨#[]⟩, .string ⟨#[]⟩])).run Try.prog W = .ok (.bool b5) W) := Lib.hid fun W => by rw [eql_ans, hb5]
          have Q6 : Hid (∀ W : World, (binOp .eql 38 (.agg #[.int .i64 code, .bool found, .string ak, .string av]) (.agg #[.int .i64 6, .bool false, .string ⟨#[]⟩, .string ⟨#[]⟩])).run Try.prog W = .ok (.bool b6) W) := Lib.hid fun W => by rw [eql_ans, hb6]
          obtain ⟨ek, eid, ⟨ok, k, v, o, had, aft, A0, len, cap0⟩, ⟨ecode, efound, eak, eav⟩⟩ := e
          simp only at x1 C22 HST HK
          simp only [Ev.cs, Opx.cs, Ans.cs, List.cons_append, List.nil_append] at HX
          subst hA
          clear hin hx hb hsa hsn hb5 hb6
          have hq1 : (0 : Int) ≤ (i : Int) := by omega
          have hq2 : (i : Int) < (l.length : Int) := by omega
          go_upto_region 11 with (go_at_call 22; (with_reducible refine C22.out.mono ?_); rintro e2 w5 ⟨⟨sk, s1, s2, s3, s4, s5, sA, sl, sc⟩, rfl, ht, _, _⟩; have H5 := Lib.hid (And.intro (HP.out.1.no ht) ht); clear ht; simp only [Opx.valH, Ans.valH])
          clear C22 x1
          have H6 : Hid (Oe w ((w5.alloc (.cells #[.int .u8 sk, .string s1, .string s2, .string s3, .bool s4, .bool s5, .slice sA sl sc] 34)).alloc (.cells #[.int .i64 code, .bool found, .string ak, .string av] 38)) (keepL (stays l) (l.take i)) Br cr ∧ Turn No wr ((w5.alloc (.cells #[.int .u8 sk, .string s1, .string s2, .string s3, .bool s4, .bool s5, .slice sA sl sc] 34)).alloc (.cells #[.int .i64 code, .bool found, .string ak, .string av] 38)) ∧ At ((w5.alloc (.cells #[.int .u8 sk, .string s1, .string s2, .string s3, .bool s4, .bool s5, .slice sA sl sc] 34)).alloc (.cells #[.int .i64 code, .bool found, .string ak, .string av] 38)) (w5.heap.size + 1) (.cells #[.int .i64 code, .bool found, .string ak, .string av] 38 (0, 0))) := Lib.hid (by
            have t2 : Turn No w5 ((w5.alloc (.cells #[.int .u8 sk, .string s1, .string s2, .string s3, .bool s4, .bool s5, .slice sA sl sc] 34)).alloc (.cells #[.int .i64 code, .bool found, .string ak, .string av] 38)) := ((Turn.refl _ _).alloc _).alloc _
            have a2 := At.new (w5.alloc (.cells #[.int .u8 sk, .string s1, .string s2, .string s3, .bool s4, .bool s5, .slice sA sl sc] 34)) (.cells #[.int .i64 code, .bool found, .string ak, .string av] 38)
            rw [World.size_alloc] at a2
            exact ⟨H5.out.1.no t2, H5.out.2.trans t2, a2⟩)
          try rw [World.size_alloc]
          clear H5
          generalize (w5.alloc (.cells #[.int .u8 sk, .string s1, .string s2, .string s3, .bool s4, .bool s5, .slice sA sl sc] 34)).alloc (.cells #[.int .i64 code, .bool found, .string ak, .string av] 38) = w6 at H6 ⊢
          generalize w5.heap.size + 1 = ga at H6 ⊢
          generalize w5.heap.size = go at ⊢
          have HR6 := Lib.hid (HX.out w6 H6.out.2.1)
          have H7 := Lib.hid (And.intro H6.out.1 HP.out.2)
          have HC : Hid (w6.cell? ⟨ga, 0, none⟩ = some (.int .i64 code) ∧ w6.cell? ⟨ga, 1, none⟩ = some (.bool found) ∧ w6.cell? ⟨ga, 2, none⟩ = some (.string ak) ∧ w6.cell? ⟨ga, 3, none⟩ = some (.string av)) := Lib.hid ⟨H6.out.2.2.cell 0, H6.out.2.2.cell 1, H6.out.2.2.cell 2, H6.out.2.2.cell 3⟩
          clear HP HX H6
          by_cases hs : 2 ≤ sn
          · have hd : decide (sn ≥ 2) = true := decide_eq_true hs
            rw [decide_eq_true hs] at HST
            clear hs
            cases b5 with
            | true =>
              have HE := Lib.hid (HK.out false (by rw [HST.out]; rfl))
              have q5 := Q5.out
              obtain ⟨c0, c1, c2, c3⟩ := HC.out
              clear Q5 Q6 HC HK HST HR6
              go_wp2_with fail
              exact ⟨⟨i + 1, Br, cr, n, by omega, by go_num, rfl, Lib.hid (by rw [HE.out]; simpa using H7.out)⟩, by simp [RowKit.intOf]; omega⟩
            | false =>
              cases b6 with
              | true =>
                have HE := Lib.hid (HK.out false (by rw [HST.out]; rfl))
                have q5 := Q5.out
                have q6 := Q6.out
                obtain ⟨c0, c1, c2, c3⟩ := HC.out
                clear Q5 Q6 HC HK HST HR6
                go_wp2_with fail
                exact ⟨⟨i + 1, Br, cr, n, by omega, by go_num, rfl, Lib.hid (by rw [HE.out]; simpa using H7.out)⟩, by simp [RowKit.intOf]; omega⟩
              | false =>
                have HE := Lib.hid (HK.out true (by rw [HST.out]; rfl))
                have q5 := Q5.out
                have q6 := Q6.out
                obtain ⟨c0, c1, c2, c3⟩ := HC.out
                clear Q5 Q6 HC HK HST
                go_upto_region 12 with fail
                clear q5 q6 c0 c1 c2 c3
                have hr1 := HR6.out
                obtain ⟨B9, c9, w9, q, hq⟩ := H7.out.1.app (by have := HLE.out; omega) ⟨ek, eid, ⟨ok, k, v, o, had, aft, A0, len, cap0⟩, ⟨ecode, efound, eak, eav⟩⟩
                rw [← H7.out.2] at q
                simp only [Ev.cs, Opx.cs, Ans.cs, List.cons_append, List.nil_append] at q
                have HQ := Lib.hid hq
                clear hq hd HR6
                go_wp2_with (first | (refine wpList_load_mid rfl 40 _ rfl b (off + i * 13) rfl [.int .u8 ek, .int .i64 eid, .int .u8 ok, .string k, .string v, .string o, .bool had, .bool aft, .slice A0 len cap0, .int .i64 ecode, .bool efound, .string eak, .string eav] _ hr1 Try.underlying40 rfl inf34 ?_) | (at_builtin; refine wpList_append_run rfl _ _ 23 rfl _ _ _ rfl rfl q ?_))
                exact ⟨⟨i + 1, by omega, by go_num, B9, c9, n + 1, ⟨rfl, rfl, rfl⟩, Lib.hid (by rw [HE.out]; exact ⟨by simpa using HQ.out, by rw [H7.out.2]; simp⟩)⟩, by simp [RowKit.intOf]; omega⟩
          · have hd : decide (sn ≥ 2) = false := decide_eq_false hs
            rw [decide_eq_false hs] at HST
            clear hs
            have HE := Lib.hid (HK.out true (by rw [HST.out]; rfl))
            clear Q5 Q6 HC HK HST
            go_upto_region 12 with fail
            have hr1 := HR6.out
            obtain ⟨B9, c9, w9, q, hq⟩ := H7.out.1.app (by have := HLE.out; omega) ⟨ek, eid, ⟨ok, k, v, o, had, aft, A0, len, cap0⟩, ⟨ecode, efound, eak, eav⟩⟩
            rw [← H7.out.2] at q
            simp only [Ev.cs, Opx.cs, Ans.cs, List.cons_append, List.nil_append] at q
            have HQ := Lib.hid hq
            clear hq hd HR6
            go_wp2_with (first | (refine wpList_load_mid rfl 40 _ rfl b (off + i * 13) rfl [.int .u8 ek, .int .i64 eid, .int .u8 ok, .string k, .string v, .string o, .bool had, .bool aft, .slice A0 len cap0, .int .i64 ecode, .bool efound, .string eak, .string eav] _ hr1 Try.underlying40 rfl inf34 ?_) | (at_builtin; refine wpList_append_run rfl _ _ 23 rfl _ _ _ rfl rfl q ?_))
            exact ⟨⟨i + 1, by omega, by go_num, B9, c9, n + 1, ⟨rfl, rfl, rfl⟩, Lib.hid (by rw [HE.out]; exact ⟨by simpa using HQ.out, by rw [H7.out.2]; simp⟩)⟩, by simp [RowKit.intOf]; omega⟩
        · obtain rfl : i = l.length := by omega
          have HP2 : Hid (Oe w wr (restL l) Br cr ∧ n = (restL l).length) := Lib.hid (by
            have h1 := HP.out
            rw [List.take_length] at h1
            exact h1)
          have hnr := HP2.out.2
          have hrl : (restL l).length ≤ 200 := Nat.le_trans (keepL_length _ _) hll
          subst hnr
          have T0 := Lib.hid HP2.out.1.tu
          have HR0 : Hid (∀ W, Turn No wr W → InE W Br cr (restL l) (restW l ps)) := Lib.hid fun W t => rest_in (HIN.out.no (T0.out.trans t)) (own_grown HP2.out.1.row t (fun _ _ h => h))
          clear HP HP2
          go_upto_region 14 with (go_at_call 11; (with_reducible refine (C11.out _ T0.out).mono ?_); rintro e w3 ⟨⟨a1, f1, rfl, hl⟩, ht⟩; have HF := Lib.hid hl; have T3 := Lib.hid ht; clear hl ht)
          clear C11
          obtain ⟨f, hf⟩ : ∃ x, x = f1 := ⟨_, rfl⟩
          subst hf
          go_upto_region 15 with (go_at_call 11; (with_reducible refine (C11R.out _ (T0.out.trans T3.out) _ _ (HR0.out _ T3.out)).mono ?_); rintro e w4 ⟨⟨a2, g2, rfl, hl⟩, ht⟩; have hgf := rest_code HRT.out HIN.out.rws.len HF.out hl; subst hgf; have T4 := Lib.hid (T3.out.trans ht); clear hl ht)
          clear C11R HF
          go_upto_region 16 with (go_at_call 17; (with_reducible refine (C17.out _ (T0.out.trans T4.out)).mono ?_); rintro e w5 ⟨X, BX, cX, rfl, hr5, ht, hd⟩; have H5 := Lib.hid (And.intro hr5 hd); have T5 := Lib.hid (T4.out.trans ht); clear hr5 ht hd)
          clear C17
          go_upto_region 17 with (go_at_call 17; (with_reducible refine (C17R.out _ (T0.out.trans T5.out) _ _ (HR0.out _ T5.out)).mono ?_); rintro e w6 ⟨Y, BY, cY, rfl, hr6, ht, hd⟩; have H6 := Lib.hid (And.intro hr6 (And.intro (H5.out.1.no ht) hd)); have T6 := Lib.hid (T0.out.trans (T5.out.trans ht)); clear hr6 ht hd)
          clear C17R
          have hXY : Y = X := by
            rcases H5.out.2 with ⟨_, h1⟩ | ⟨h1, _⟩
            · rcases H6.out.2.2 with ⟨_, h2⟩ | ⟨h2, _⟩
              · rw [h1, h2, rest_M HRT.out HIN.out.rws.len]
              · exact absurd (HRT.out.keep _) h2
            · exact absurd HRT.out h1
          subst hXY
          have hyl : Y.length ≤ 100000 := by
            rcases H5.out.2 with ⟨_, h4⟩ | ⟨_, h4⟩
            · have h5 := lnM_len HIN.out.few HIN.out.rws.len (news S) l.length (Nat.le_refl _)
              have h6 := news_few hn
              rw [h4]; omega
            · rw [h4]; simp
          have HRW : Hid (Row w6 BX (pcs Y) ∧ Row w6 BY (pcs Y)) := Lib.hid ⟨H6.out.2.1, H6.out.1⟩
          clear H5 H6 HR0 T0 T3 T4 T5
          go_wp2_with fail
          go_loopw [18] (fun x wx => ∃ kk : Nat, kk ≤ Y.length ∧ x = .int .i64 (kk : Int) ∧ Hid (Turn No w6 wx)) (fun x _ => Y.length - (RowKit.intOf x).toNat)
          case atStart => exact ⟨0, Nat.zero_le _, rfl, Lib.hid (Turn.refl _ _)⟩
          case round =>
            obtain ⟨kk, hk, rfl, HT⟩ := hrel
            by_cases hlk : kk < Y.length
            · obtain ⟨y, hy⟩ : ∃ y, Y[kk]? = some y := ⟨Y[kk], List.getElem?_eq_getElem hlk⟩
              obtain ⟨b, off, hA, hb, x0, x1⟩ := (HRW.out.1.no HT.out).pair hy
              obtain ⟨b2, off2, hB, hb2, y0, y1⟩ := (HRW.out.2.no HT.out).pair hy
              obtain ⟨yk, yv⟩ := y
              simp only at x0 x1 y0 y1
              have qn := fun W => neq_pr yk yk yv yv W
              rw [prEq_iff (p := ⟨yk, yv⟩) (q := ⟨yk, yv⟩) |>.2 rfl] at qn
              subst hA hB
              clear hb hb2 hy
              have hq1 : (0 : Int) ≤ (kk : Int) := by omega
              have hq2 : (kk : Int) < (Y.length : Int) := by omega
              go_wp2_with fail
              go_quiet (fail)
              all_goals go_wp2_with fail
              all_goals exact ⟨⟨kk + 1, by omega, by go_num, Lib.hid (by first | exact HT.out.drewN _ | exact HT.out.drew)⟩, by simp [RowKit.intOf]; omega⟩
            · obtain rfl : kk = Y.length := by omega
              go_wp2_with (go_at_call 10; refine (CW.out _).mono ?_; rintro e w7 ⟨rfl, ht⟩; have H7 := Lib.hid (HT.out.trans ht); clear ht)
              go_ret
              exact ⟨rfl, T6.out.trans H7.out⟩
    · have hz1 : (code == 0) = false := by simpa using hz
      have hz2 : (code != 0) = true := by simpa using hz
      have HNR : Hid (¬ Right l) := Lib.hid fun hr => hz ((H2.out.1.of_right hr).2)
      have T2 := Lib.hid H2.out.2
      clear hz H2
      go_wp2_with (first
        | (go_at_call 17; (with_reducible refine (C17.out _ T2.out).mono ?_); rintro e w3 ⟨X, BX, cX, rfl, hr5, ht, hd⟩; have hx0 : X = [] := hd.elim (fun h => absurd h.1 HNR.out) (fun h => h.2); subst hx0; have T3 := Lib.hid (T2.out.trans ht); clear hr5 ht hd)
        | (go_at_call 10; refine (CW.out _).mono ?_; rintro e w7 ⟨rfl, ht⟩; have H7 := Lib.hid (T3.out.trans ht); clear ht))
      go_ret
      exact ⟨rfl, H7.out⟩
end Go.Proofs.Ytllppkfeiifklaa
