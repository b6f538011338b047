/-
  linear.Check: is the witness right?
-/
import Derived.Test.YtllppkfeiifklaaJ31
import Derived.Test.YtllppkfeiifklaaJ30
import Derived.Test.YtllppkfeiifklaaJ16
namespace Go.Proofs.Ytllppkfeiifklaa
open Go.RowKit Go.Lib
set_option linter.unusedVariables false
set_option maxRecDepth 20000
set_option linter.unusedSimpArgs false

theorem Row.tk {w : World} {A : Option Addr} {T : List Tk} (h : Row w A (tcs T)) {j : Nat} {t : Tk} (ht : T[j]? = some t) :
    ∃ b o, A = some ⟨b, o, none⟩ ∧ b < w.heap.size ∧ w.rangeAt b (o + j * 12) t.cs := by
  obtain ⟨b, o, hA, hb, _⟩ := h (j * 12 + 0) _ (tcs_at ht 0 (by decide))
  refine ⟨b, o, hA, hb, fun i v hi => ?_⟩
  have hl : i < 12 := (List.getElem?_eq_some_iff.1 hi).1
  obtain ⟨b', o', hA', _, hc⟩ := h (j * 12 + i) v (by rw [tcs_at ht i hl]; exact hi)
  rw [hA] at hA'
  injection hA' with hA'
  injection hA' with e1 e2
  subst e1 e2
  rw [Nat.add_assoc]
  exact hc
/-- A map of one's own, beside the row of what has taken effect. -/
structure Lc (w wr : World) (m : Nat) (r : Option Nat) (M : List Pr) (B : Option Addr) (c : Nat) (T : List Tk) : Prop where
  so : So w wr m r M
  row : wr.ownsRow w.heap.size 56 12 (.slice B T.length c) T.length (tcs T)
section
variable {w wr w2 : World} {m c : Nat} {r : Option Nat} {M : List Pr} {B : Option Addr} {T : List Tk}
theorem Lc.no (h : Lc w wr m r M B c T) (t : Turn No wr w2) : Lc w w2 m r M B c T := ⟨h.so.no t, own_grown h.row t fun _ _ h => h⟩
theorem Lc.step (h : Lc w wr m r M B c T) {r2 : Option Nat} {M2 : List Pr} (hom : Om w2 w.heap.size m r2 M2) (t : Turn (Mp m r) wr w2) : Lc w w2 m r2 M2 B c T := by
  refine ⟨⟨hom, turn_mp h.so.a h.so.tu t⟩, own_grown h.row t fun k hk e => ?_⟩
  rw [own_ablk] at hk
  obtain ⟨_, cur, hc⟩ := own_at h.row hk
  have := h.so.a.apart hc (by decide) (by decide)
  exact e.elim this.1 this.2
theorem Lc.tk (h : Lc w wr m r M B c T) {j : Nat} {t : Tk} (ht : T[j]? = some t) : ∃ b o, B = some ⟨b, o, none⟩ ∧ b < wr.heap.size ∧ wr.rangeAt b (o + j * 12) t.cs := (row_of_own h.row).tk ht
end
theorem tM_few {l : List Ev} {ps : List (List Wr)} (hf : FewE l ps) (hl : ps.length = l.length) {M : List Pr} (hM : M.length ≤ 100) {j : Nat} {t : Tk} (ht : (wit l)[j]? = some t) : (tM l ps M j).length ≤ 20000 := by
  obtain ⟨h1, e, he, h2, h3, h4⟩ := witF_get ht
  have hn := Nat.le_of_lt h1
  rw [← h4, tM_eq l ps M _ hn]
  have := lnM_len hf hl M t.at_ hn
  have := hf.len
  omega
/-- The map behind, where an operation does something. -/
theorem tM_act {l : List Ev} {ps : List (List Wr)} {M : List Pr} {j : Nat} {t : Tk} (h : (wit l)[j]? = some t) (ha : idleA t.an = false) : tM l ps M (j + 1) = opD (tM l ps M j) (stO l t.id) (stW l ps t.id) := by
  rw [tM_snoc h]; unfold tS; rw [ha]; rfl
theorem tM_idle {l : List Ev} {ps : List (List Wr)} {M : List Pr} {j : Nat} {t : Tk} (h : (wit l)[j]? = some t) (ha : idleA t.an = true) : tM l ps M (j + 1) = tM l ps M j := by
  rw [tM_snoc h]; unfold tS; rw [ha]; rfl
theorem tOk_idle {l : List Ev} {ps : List (List Wr)} {M : List Pr} {j : Nat} {t : Tk} (ha : idleA t.an = true) : tOk l ps M j t = true := by unfold tOk; rw [ha]; rfl
theorem tOk_act {l : List Ev} {ps : List (List Wr)} {M : List Pr} {j : Nat} {t : Tk} (ha : idleA t.an = false) : tOk l ps M j t = decide (opA (tM l ps M j) (stO l t.id) (stW l ps t.id) = t.an) := by unfold tOk; rw [ha]; rfl
theorem wit_op {l : List Ev} {j : Nat} {t : Tk} (h : (wit l)[j]? = some t) : t.op = stP l t.id := by
  obtain ⟨_, e, _, _, h3, _⟩ := witF_get h
  have e1 : t.op = stP l e.id := by rw [h3]
  have e2 : t.id = e.id := by rw [h3]
  rw [e1, e2]
/-- Do of an operation of the witness. -/
theorem lc_do {w wr : World} {m c : Nat} {r : Option Nat} {M : List Pr} {B : Option Addr} {l : List Ev} {ps : List (List Wr)} (hr : Rws w l ps) (hf : FewE l ps) (h : Lc w wr m r M B c (wit l)) {j : Nat} {t : Tk} (ht : (wit l)[j]? = some t) (hM : M.length ≤ 20000) :
    Calls Try.prog 31 #[.pointer (some ⟨m, 0, none⟩), .agg #[.int .u8 t.op.kind, .string t.op.k, .string t.op.v, .string t.op.o, .bool t.op.had, .bool t.op.aft, .slice t.op.A t.op.len t.op.cap]] wr fun e w' =>
      e = .returned (.agg #[.int .i64 (opA M (stO l t.id) (stW l ps t.id)).code, .bool (opA M (stO l t.id) (stW l ps t.id)).found, .string (opA M (stO l t.id) (stW l ps t.id)).k, .string (opA M (stO l t.id) (stW l ps t.id)).v]) ∧
      ∃ r', Lc w w' m r' (opD M (stO l t.id) (stW l ps t.id)) B c (wit l) ∧ Turn (Mp m r) wr w' := by
  have hrow := stP_row hr t.id
  have hp := stP_pure l t.id
  have hfw := hf.st hr.len t.id
  rw [wit_op ht]
  rw [← hp] at hfw ⊢
  generalize stP l t.id = x at hrow hfw
  generalize stW l ps t.id = ws at hrow hfw
  obtain ⟨kd, k, v, o, had, aft, A, len, cap⟩ := x
  obtain ⟨h1, h2⟩ := hrow
  simp only at h1 h2
  subst h2
  refine (om_do h.so.a h.so.tu kd k v o had aft A cap ws h1 hfw (by omega) rfl rfl).mono ?_
  rintro e w' ⟨rfl, r', hom, _, t2⟩
  exact ⟨rfl, r', h.step hom t2, t2⟩
set_option maxRecDepth 100000 in
set_option maxHeartbeats 16000000 in
theorem lcheck_any (S : List Pr) (A : Option Addr) (cap : Nat) (l : List Ev) (ps : List (List Wr)) (B : Option Addr) (cap2 : Nat) (w : World) (hS : InP w A S.length cap S) (hn : S.length ≤ 100) (hE : InE w B cap2 l ps) :
    Calls Try.prog 11 #[.slice A S.length cap, .slice B l.length cap2] w fun r w' => (∃ a c, r = .returned (.tuple #[.int .i64 a, .int .i64 c]) ∧ LinC l ps (news S) a c) ∧ Turn No w w' := by
  have hll : l.length ≤ 200 := hE.few.len
  have hwl : (wit l).length ≤ 200 := Nat.le_trans (witF_length l l.length) hll
  have C21 := Lib.hid (check_any l B cap2 w hE.row hE.ids (by omega))
  have HR := Lib.hid (And.intro hS hE)
  have HM0 := Lib.hid (news_few hn)
  obtain ⟨M0, hM0⟩ : ∃ M, news S = M := ⟨_, rfl⟩
  have HMN := Lib.hid hM0
  rw [hM0] at HM0 ⊢
  clear hS hE hM0
  go_enter Try.func11, Try.ntmps11
  go_upto_if 17 with (go_at_call 21; refine C21.out.mono ?_; rintro e w1 ⟨at_, code, rfl, hc, ht⟩; have H1 := Lib.hid (And.intro hc ht); clear hc ht)
  clear C21
  by_cases hz : code = 0
  · subst hz
    have hrt : Right l := by
      rcases H1.out.1 with ⟨h, _⟩ | ⟨n, _, _, h⟩
      · exact h
      · cases h
    have HRT := Lib.hid hrt
    clear hrt
    have C28 := Lib.hid (so_new H1.out.2 A cap S HR.out.1 hn)
    rw [HMN.out] at C28
    go_upto_region 5 with (go_at_call 28; refine C28.out.mono ?_; rintro e w2 ⟨m, rr, rfl, hso, ht⟩; have H2 := Lib.hid (And.intro hso ht); clear hso ht)
    clear C28
    have C29 := Lib.hid (wit_any l HRT.out B cap2 w2 (HR.out.2.row.no H2.out.1.tu) HR.out.2.ids (by omega))
    go_upto_region 6 with (go_at_call 29; refine C29.out.mono ?_; rintro e w3 ⟨Bt, ct, rfl, ho, ht⟩; have H3 := Lib.hid (And.intro ho ht); clear ho ht)
    have HL0 : Hid (∃ r, Lc w w3 m r (tM l ps M0 0) Bt ct (wit l)) := Lib.hid ⟨_, H2.out.1.no H3.out.2, H3.out.1.mono H2.out.1.tu.size⟩
    clear C29 H3 H2 H1
    go_wp2_with fail
    go_loopw [25] (fun x wr => ∃ i : Nat, i ≤ (wit l).length ∧ x = .int .i64 (i : Int) ∧ Hid ((∃ r, Lc w wr m r (tM l ps M0 i) Bt ct (wit l)) ∧ TUp l ps M0 i)) (fun x _ => (wit l).length - (RowKit.intOf x).toNat)
    case atStart => exact ⟨0, Nat.zero_le _, rfl, Lib.hid ⟨HL0.out, TUp.zero _ _ _⟩⟩
    case round =>
      obtain ⟨i, hi, rfl, HQ⟩ := hrel
      clear HL0
      obtain ⟨⟨r, hlc⟩, hu⟩ := HQ.out
      have HU := Lib.hid hu
      have HP := Lib.hid hlc
      clear hlc hu HQ
      by_cases hlt : i < (wit l).length
      · obtain ⟨t, ht⟩ : ∃ t, (wit l)[i]? = some t := ⟨(wit l)[i], List.getElem?_eq_getElem hlt⟩
        have HT := Lib.hid ht
        obtain ⟨b, off, hA, hb, hx⟩ := HP.out.tk ht
        have tn : Turn No wr (wr.alloc (.cells t.cs.toArray 56)) := (Turn.refl _ _).alloc _
        have HN : Hid (Lc w (wr.alloc (.cells t.cs.toArray 56)) m r (tM l ps M0 i) Bt ct (wit l) ∧ At (wr.alloc (.cells t.cs.toArray 56)) wr.heap.size (.cells t.cs.toArray 56 (0, 0))) := Lib.hid ⟨HP.out.no tn, At.new _ _⟩
        have CH := Lib.hid fun W => had_any t.an W
        have hml := tM_few HR.out.2.few HR.out.2.rws.len HM0.out ht
        have HML := Lib.hid hml
        have CD := Lib.hid fun (W : World) (hl : Lc w W m r (tM l ps M0 i) Bt ct (wit l)) => lc_do HR.out.2.rws HR.out.2.few hl ht hml
        obtain ⟨tat, tid, ⟨ok, k, v, o, had, aft, A0, len, cap0⟩, ⟨code, found, ak, av⟩⟩ := t
        have hr1 : wr.rangeAt b (off + i * 12) [.int .i64 tat, .int .u8 ok, .string k, .string v, .string o, .bool had, .bool aft, .slice A0 len cap0, .int .i64 code, .bool found, .string ak, .string av] := hx
        simp only [Tk.cs, Opx.cs, Ans.cs, List.cons_append, List.nil_append] at HN
        simp only at CH CD
        subst hA
        clear hx tn HP hb ht hml
        go_upto_region 8 with (refine wpList_load_mid rfl 56 _ rfl b (off + i * 12) rfl [.int .i64 tat, .int .u8 ok, .string k, .string v, .string o, .bool had, .bool aft, .slice A0 len cap0, .int .i64 code, .bool found, .string ak, .string av] _ hr1 Try.underlying56 rfl info56 ?_)
        clear hr1
        generalize wr.alloc (.cells #[.int .i64 tat, .int .u8 ok, .string k, .string v, .string o, .bool had, .bool aft, .slice A0 len cap0, .int .i64 code, .bool found, .string ak, .string av] 56) = w6 at HN ⊢
        generalize wr.heap.size = g at HN ⊢
        have CSS : Hid (∀ W, At W g (.cells #[.int .i64 tat, .int .u8 ok, .string k, .string v, .string o, .bool had, .bool aft, .slice A0 len cap0, .int .i64 code, .bool found, .string ak, .string av] 56 (0, 0)) → W.cell? ⟨g, 1, none⟩ = some (.int .u8 ok) ∧ W.cell? ⟨g, 2, none⟩ = some (.string k) ∧ W.cell? ⟨g, 3, none⟩ = some (.string v) ∧ W.cell? ⟨g, 4, none⟩ = some (.string o) ∧ W.cell? ⟨g, 5, none⟩ = some (.bool had) ∧ W.cell? ⟨g, 6, none⟩ = some (.bool aft) ∧ W.cell? ⟨g, 7, none⟩ = some (.slice A0 len cap0) ∧ W.cell? ⟨g, 8, none⟩ = some (.int .i64 code) ∧ W.cell? ⟨g, 9, none⟩ = some (.bool found) ∧ W.cell? ⟨g, 10, none⟩ = some (.string ak) ∧ W.cell? ⟨g, 11, none⟩ = some (.string av)) := Lib.hid fun W h => ⟨h.cell 1, h.cell 2, h.cell 3, h.cell 4, h.cell 5, h.cell 6, h.cell 7, h.cell 8, h.cell 9, h.cell 10, h.cell 11⟩
        have HG := Lib.hid HN.out.2
        have hS0 := CSS.out w6.drew (HN.out.2.no (Turn.refl No w6).drew)
        have hS1 : Hid (∀ W, Turn No w6 W → W.cell? ⟨g, 1, none⟩ = some (.int .u8 ok) ∧ W.cell? ⟨g, 2, none⟩ = some (.string k) ∧ W.cell? ⟨g, 3, none⟩ = some (.string v) ∧ W.cell? ⟨g, 4, none⟩ = some (.string o) ∧ W.cell? ⟨g, 5, none⟩ = some (.bool had) ∧ W.cell? ⟨g, 6, none⟩ = some (.bool aft) ∧ W.cell? ⟨g, 7, none⟩ = some (.slice A0 len cap0) ∧ W.cell? ⟨g, 8, none⟩ = some (.int .i64 code) ∧ W.cell? ⟨g, 9, none⟩ = some (.bool found) ∧ W.cell? ⟨g, 10, none⟩ = some (.string ak) ∧ W.cell? ⟨g, 11, none⟩ = some (.string av)) := Lib.hid fun W t => CSS.out W (HN.out.2.no t)
        cases hid : idleA ⟨code, found, ak, av⟩ with
        | true =>
          rw [hid] at CH
          have HM1 : Hid (tM l ps M0 (i + 1) = tM l ps M0 i ∧ tOk l ps M0 i ⟨tat, tid, ⟨ok, k, v, o, had, aft, A0, len, cap0⟩, ⟨code, found, ak, av⟩⟩ = true) := Lib.hid ⟨tM_idle HT.out hid, tOk_idle hid⟩
          clear hid CD
          have hT : Turn No w6 w6 := Turn.refl _ _
          obtain ⟨e1, e2, e3, e4, e5, e6, e7, e8, e9, e10, e11⟩ := hS1.out w6 hT
          clear hT hS0
          (first | (go_region_with (go_at_call 30; (with_reducible refine (CH.out _).mono ?_); rintro e wy ⟨rfl, hy⟩; replace hy := Lib.hid (drew_or hy))) | fail "no")
          all_goals have HN2 := Lib.hid (HN.out.1.no hy.out)
          all_goals clear HN hy hS1 CSS e1 e2 e3 e4 e5 e6 e7 e8 e9 e10 e11
          all_goals go_wp2_with fail
          all_goals exact ⟨⟨i + 1, by omega, by go_num, Lib.hid ⟨⟨r, by rw [HM1.out.1]; exact HN2.out⟩, HU.out.snoc HT.out HM1.out.2⟩⟩, by simp [RowKit.intOf]; omega⟩
        | false =>
          rw [hid] at CH
          have HM1 : Hid (tM l ps M0 (i + 1) = opD (tM l ps M0 i) (stO l tid) (stW l ps tid) ∧ tOk l ps M0 i ⟨tat, tid, ⟨ok, k, v, o, had, aft, A0, len, cap0⟩, ⟨code, found, ak, av⟩⟩ = decide (opA (tM l ps M0 i) (stO l tid) (stW l ps tid) = ⟨code, found, ak, av⟩)) := Lib.hid ⟨tM_act HT.out hid, tOk_act hid⟩
          clear hid
          obtain ⟨aa, haa⟩ : ∃ x, opA (tM l ps M0 i) (stO l tid) (stW l ps tid) = x := ⟨_, rfl⟩
          rw [haa] at CD HM1
          clear haa
          have CD2 : Hid (∀ W, Turn No w6 W → Calls Try.prog 31 #[.pointer (some ⟨m, 0, none⟩), .agg #[.int .u8 ok, .string k, .string v, .string o, .bool had, .bool aft, .slice A0 len cap0]] W fun e w' => e = .returned (.agg #[.int .i64 aa.code, .bool aa.found, .string aa.k, .string aa.v]) ∧ Hid ((∃ r', Lc w w' m r' (opD (tM l ps M0 i) (stO l tid) (stW l ps tid)) (some ⟨b, off, none⟩) ct (wit l)) ∧ At w' g (.cells #[.int .i64 tat, .int .u8 ok, .string k, .string v, .string o, .bool had, .bool aft, .slice A0 len cap0, .int .i64 code, .bool found, .string ak, .string av] 56 (0, 0)))) := Lib.hid fun W t => (CD.out W (HN.out.1.no t)).mono (by
            rintro e w' ⟨rfl, r', h1, h2⟩
            exact ⟨rfl, Lib.hid ⟨⟨r', h1⟩, (HN.out.1.no t).so.a.keep (HN.out.2.no t) (by decide) (by decide) h2⟩⟩)
          clear CD
          by_cases hae : aa = ⟨code, found, ak, av⟩
          · as_aux_lemma =>
              rw [hae] at CD2 HM1
              have HOK : Hid (tOk l ps M0 i ⟨tat, tid, ⟨ok, k, v, o, had, aft, A0, len, cap0⟩, ⟨code, found, ak, av⟩⟩ = true) := Lib.hid (by rw [HM1.out.2]; exact decide_eq_true rfl)
              clear hae aa
              have qn := fun W => neq_ans code code found found ak ak av av W
              rw [ansEq_same] at qn
              go_region_held3 (fun W => W.cell? ⟨g, 1, none⟩ = some (.int .u8 ok) ∧ W.cell? ⟨g, 2, none⟩ = some (.string k) ∧ W.cell? ⟨g, 3, none⟩ = some (.string v) ∧ W.cell? ⟨g, 4, none⟩ = some (.string o) ∧ W.cell? ⟨g, 5, none⟩ = some (.bool had) ∧ W.cell? ⟨g, 6, none⟩ = some (.bool aft) ∧ W.cell? ⟨g, 7, none⟩ = some (.slice A0 len cap0) ∧ W.cell? ⟨g, 8, none⟩ = some (.int .i64 code) ∧ W.cell? ⟨g, 9, none⟩ = some (.bool found) ∧ W.cell? ⟨g, 10, none⟩ = some (.string ak) ∧ W.cell? ⟨g, 11, none⟩ = some (.string av)) (first | (with_reducible exact hS0) | (with_reducible exact CSS.out _ hz.out.2) | (with_reducible exact hS1.out _ hy.out)) (first | (go_at_call 30; (with_reducible refine (CH.out _).mono ?_); rintro e wy ⟨rfl, hy⟩; replace hy := Lib.hid (drew_or hy)) | (go_at_call 31; (with_reducible refine (CD2.out _ hy.out).mono ?_); rintro e wz ⟨rfl, hz⟩))
              have HN2 := Lib.hid hz.out.1
              clear HN hy hS0 hS1 CSS hz
              go_wp2_with fail
              exact ⟨⟨i + 1, by omega, by go_num, Lib.hid ⟨by rw [HM1.out.1]; exact HN2.out, HU.out.snoc HT.out HOK.out⟩⟩, by simp [RowKit.intOf]; omega⟩
          · as_aux_lemma =>
              have HOK : Hid (tOk l ps M0 i ⟨tat, tid, ⟨ok, k, v, o, had, aft, A0, len, cap0⟩, ⟨code, found, ak, av⟩⟩ = false) := Lib.hid (by rw [HM1.out.2]; exact decide_eq_false hae)
              have qn := fun W => neq_ans aa.code code aa.found found aa.k ak aa.v av W
              have hbe : ansEq aa.code code aa.found found aa.k ak aa.v av = false := by
                rw [Bool.eq_false_iff, Ne, ansEq_iff]; exact hae
              rw [hbe] at qn
              clear hbe hae
              go_region_held3 (fun W => W.cell? ⟨g, 1, none⟩ = some (.int .u8 ok) ∧ W.cell? ⟨g, 2, none⟩ = some (.string k) ∧ W.cell? ⟨g, 3, none⟩ = some (.string v) ∧ W.cell? ⟨g, 4, none⟩ = some (.string o) ∧ W.cell? ⟨g, 5, none⟩ = some (.bool had) ∧ W.cell? ⟨g, 6, none⟩ = some (.bool aft) ∧ W.cell? ⟨g, 7, none⟩ = some (.slice A0 len cap0) ∧ W.cell? ⟨g, 8, none⟩ = some (.int .i64 code) ∧ W.cell? ⟨g, 9, none⟩ = some (.bool found) ∧ W.cell? ⟨g, 10, none⟩ = some (.string ak) ∧ W.cell? ⟨g, 11, none⟩ = some (.string av)) (first | (with_reducible exact hS0) | (with_reducible exact CSS.out _ hz.out.2) | (with_reducible exact hS1.out _ hy.out)) (first | (go_at_call 30; (with_reducible refine (CH.out _).mono ?_); rintro e wy ⟨rfl, hy⟩; replace hy := Lib.hid (drew_or hy)) | (go_at_call 31; (with_reducible refine (CD2.out _ hy.out).mono ?_); rintro e wz ⟨rfl, hz⟩))
              have HN2 := Lib.hid hz.out.1
              have y0 := hz.out.2.cell 0
              simp only [List.getElem?_toArray, List.getElem?_cons_zero] at y0
              clear HN hy hS0 hS1 CSS
              go_wp2_with fail
              go_ret2
              obtain ⟨r', h1⟩ := HN2.out
              exact ⟨⟨_, _, rfl, .inr ⟨HRT.out, lin_bad HU.out HT.out HOK.out⟩⟩, h1.so.tu⟩
      · obtain rfl : i = (wit l).length := by omega
        have HL : Hid (Lin l ps M0 (-1) 0) := Lib.hid (lin_all HU.out)
        go_wp2_with fail
        go_ret2
        exact ⟨⟨_, _, rfl, .inr ⟨HRT.out, HL.out⟩⟩, HP.out.so.tu⟩
  · have hz1 : (code == 0) = false := by simpa using hz
    have hz2 : (code != 0) = true := by simpa using hz
    have HZ := Lib.hid hz
    clear hz
    go_wp2_with fail
    go_ret2
    exact ⟨⟨_, _, rfl, .inl ⟨H1.out.1, HZ.out⟩⟩, H1.out.2⟩
end Go.Proofs.Ytllppkfeiifklaa
