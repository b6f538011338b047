/-
  linear.near: the pairs that the calls may tell or change.
  linear.Some: is there any row?
  linear.After: what the map has behind the witness.
-/
import Derived.Test.YtllppkfeiifklaaJ36
import Derived.Test.YtllppkfeiifklaaJ37
import Derived.Test.YtllppkfeiifklaaJ32
namespace Go.Proofs.Ytllppkfeiifklaa
open Go.RowKit Go.Lib
set_option linter.unusedVariables false
set_option maxRecDepth 20000
set_option linter.unusedSimpArgs false

section
variable {w wr w2 : World} {Z : Nat} {l : List Ev} {ps : List (List Wr)} {J : List Int} {f : Nat → Nat} {C : List Cl} {B : Option Addr} {c m gk ck cp : Nat} {r r2 : Option Nat} {M : List Pr} {K : List ByteArray} {Bk : Option Addr} {P : List Pr} {Bp : Option Addr}
theorem Nr.far (h : Nr w wr Z l ps J f C B c m r M gk K Bk ck P Bp cp) {g : Nat} {cs : Array Value} (hg : At wr g (.cells cs 38 (0, 0))) (hz : w.heap.size ≤ g) (t : Turn (fun k => k = g) wr w2) : Nr w w2 Z l ps J f C B c m r M gk K Bk ck P Bp cp := by
  have hX : ∀ k cur tt, tt ≠ 38 → k = g → ¬ At wr k (.cells cur tt (0, 0)) := fun k cur tt h1 e hat => by
    subst e
    have := hat.eq hg
    injection this with _ e3 _
    exact h1 e3
  have hap := h.so.a.apart hg (by decide) (by decide)
  refine ⟨⟨h.so.a.turn t (fun e => hap.1 e.symm) (fun k hk e => hap.2 (by rw [hk, e])), h.so.tu.then t fun i hi e => by omega⟩, h.cs.turn t (fun k cur e => hX k cur 77 (by decide) e) (fun k cur e => hX k cur 68 (by decide) e), h.kbx.turn t (fun e => hX _ _ 87 (by decide) e h.kbx), own_grown h.kr t fun k hk e => ?_, own_grown h.pr t fun k hk e => ?_, h.ne⟩
  · rw [own_ablk] at hk
    obtain ⟨_, cur, hc⟩ := own_at h.kr hk
    exact hX k cur 9 (by decide) e hc
  · rw [own_ablk] at hk
    obtain ⟨_, cur, hc⟩ := own_at h.pr hk
    exact hX k cur 47 (by decide) e hc
end
/-- In the inner loop. -/
def Ni (w : World) (Z : Nat) (l : List Ev) (ps : List (List Wr)) (J : List Int) (f : Nat → Nat) (C : List Cl) (B : Option Addr) (c m : Nat) (M : List Pr) (gk : Nat) (K : List ByteArray) (Bk : Option Addr) (ck : Nat) (P : List Pr) (Bp : Option Addr) (cp g : Nat) (R : List Pr) (wr : World) : Prop :=
  ∃ r a, Nr w wr Z l ps J f C B c m r M gk K Bk ck P Bp cp ∧ At wr g (.cells #[.int .i64 a.code, .bool a.found, .string a.k, .string a.v] 38 (0, 0)) ∧ Ax M K a R
set_option maxRecDepth 100000 in
set_option maxHeartbeats 16000000 in
theorem near_any (S : List Pr) (A : Option Addr) (cap : Nat) {Z : Nat} {w : World} {l : List Ev} {ps : List (List Wr)} {J : List Int} {f : Nat → Nat} {C : List Cl} {B : Option Addr} {c : Nat} (hS : InP w A S.length cap S) (hn : S.length ≤ 100) (h : Cs Z w l ps J f C B c) (hZ : Z ≤ w.heap.size) (hj : J.length ≤ 7) (hf : FewE l ps) (hps : ps.length = l.length) :
    Calls Try.prog 47 #[.slice A S.length cap, .slice B C.length c] w fun e w' => ∃ Bp cp, e = .returned (.slice Bp (nearL l ps (news S) (namL l ps J) J).length cp) ∧ w'.ownsRow w.heap.size 47 2 (.slice Bp (nearL l ps (news S) (namL l ps J) J).length cp) (nearL l ps (news S) (namL l ps J) J).length (pcs (nearL l ps (news S) (namL l ps J) J)) ∧ Turn No w w' := by
  have HL := Lib.hid (And.intro h hZ)
  have HLN := Lib.hid h.len
  have HF := Lib.hid (And.intro hf hps)
  have C28 := Lib.hid (so_new (Turn.refl No w) A cap S hS hn)
  have C81 := Lib.hid fun (W : World) (t : Turn No w W) => named_any (h.no t) hj hf hps
  rw [h.len] at C81 ⊢
  have HAS := Lib.hid (asc_news S)
  have HM0 := Lib.hid (news_few hn)
  obtain ⟨M, hM⟩ : ∃ M, news S = M := ⟨_, rfl⟩
  obtain ⟨K, hK⟩ : ∃ K, namL l ps J = K := ⟨_, rfl⟩
  have hkl := namL_len hf hps J
  have HBG := Lib.hid fun k (hk : hasK (namL l ps J) k = true) => namL_big (hasK_iff.1 hk)
  rw [hM] at C28 HAS HM0 ⊢
  rw [hK] at C81 hkl HBG ⊢
  have HKL := Lib.hid (show K.length ≤ 100000 by omega)
  clear hS h hZ hf hps hM hK hkl
  go_enter Try.func47, Try.ntmps47
  go_upto_region 2 with (first | (go_at_call 28; refine C28.out.mono ?_; rintro e w1 ⟨m, rr, rfl, hso, ht⟩; have H1 := Lib.hid (And.intro hso ht); clear hso ht; have CN := Lib.hid (C81.out w1 H1.out.2)) | (go_at_call 81; refine CN.out.mono ?_; rintro e w2 ⟨Bk, ck, rfl, hks⟩; have H2 := Lib.hid hks; clear hks))
  clear C28 C81 CN
  have H3 : Hid (So w (w2.alloc (.cells #[.slice Bk K.length ck] 87)) m (some rr) M ∧ At (w2.alloc (.cells #[.slice Bk K.length ck] 87)) w2.heap.size (.cells #[.slice Bk K.length ck] 87 (0, 0)) ∧ (w2.alloc (.cells #[.slice Bk K.length ck] 87)).ownsRow w.heap.size 9 1 (.slice Bk K.length ck) K.length (kcs K)) := Lib.hid (by
    have t3 : Turn No w2 (w2.alloc (.cells #[.slice Bk K.length ck] 87)) := (Turn.refl _ _).alloc _
    exact ⟨(H1.out.1.no H2.out.tu).no t3, At.new _ _, (own_grown H2.out.row t3 (fun _ _ h => h)).mono H1.out.2.size⟩)
  clear H1 H2
  generalize w2.alloc (.cells #[.slice Bk K.length ck] 87) = w3 at H3 ⊢
  generalize w2.heap.size = gk at H3 ⊢
  have C39 := Lib.hid (all_any H3.out.1.a)
  go_upto_region 3 with (first | (go_at_call 39; refine C39.out.mono ?_; rintro e w4 ⟨B9, rfl, ho, ht⟩; have H4 := Lib.hid (And.intro ho ht); clear ho ht; have HX4 := Lib.hid (hx_own H4.out.1 rfl); have CD := Lib.hid (delf_any K Bk ck gk M B9 M.length w4 HX4.out.1 HX4.out.2.1 (fun W t => ⟨(H3.out.2.1.no H4.out.2).turn t (fun e => by have h1 := HX4.out.2.2; have h2 := H3.out.2.1.lt; omega), row_of_own (own_grown (own_grown H3.out.2.2 H4.out.2 (fun _ _ h => h)) t (fun k hk e => by have h1 := HX4.out.2.2; have h2 := (H3.out.2.2.lt k hk).2; omega))⟩) HKL.out (n := M.length) (by have := HM0.out; omega) rfl)) | (go_at_call 82; refine CD.out.mono ?_; rintro e w5 ⟨rfl, hx, ht⟩; have H5 := Lib.hid (And.intro hx ht); clear hx ht))
  clear C39 CD
  have H6 : Hid (∃ r, Nr w w5 Z l ps J f C B c m r M gk K Bk ck (nearL l ps M K (J.take 0)) (some ⟨B9, 0, none⟩) M.length) := Lib.hid (by
    have hB := HX4.out.2.2
    have hs3 := H3.out.1.tu.size
    have e0 : nearL l ps M K (J.take 0) = M.filter (keepB K) := by simp [nearL]
    rw [e0]
    have hne : ∀ i, i < w3.heap.size → ¬ i = B9 := fun i hi e => by omega
    have t45 := H5.out.2
    have tw4 := H4.out.2
    refine ⟨some rr, ⟨(H3.out.1.a.no tw4).turn t45 (fun e => hne m H3.out.1.a.lt e) (fun k hk e => hne k (H3.out.1.a.rb_lt hk).2 e), (H3.out.1.tu.trans tw4).then t45 (fun i hi e => hne i (by omega) e)⟩, (HL.out.1.no (H3.out.1.tu.trans tw4)).turn t45 ?_ ?_, (H3.out.2.1.no tw4).turn t45 (hne gk H3.out.2.1.lt), own_grown (own_grown H3.out.2.2 tw4 (fun _ _ h => h)) t45 (fun k hk e => hne k (H3.out.2.2.lt k hk).2 e), own_hx H5.out.1 HX4.out.2.1 (by omega), fun k hk e => ?_⟩
    · intro k cur e hat
      subst e
      obtain ⟨cur2, hd⟩ := HX4.out.1
      have h9 : At w4 k (.cells cur2.toArray 47 (0, 0)) := hd.blk
      have := hat.eq h9
      injection this with _ e3 _
      exact absurd e3 (by decide)
    · intro k cur e hat
      subst e
      obtain ⟨cur2, hd⟩ := HX4.out.1
      have h9 : At w4 k (.cells cur2.toArray 47 (0, 0)) := hd.blk
      have := hat.eq h9
      injection this with _ e3 _
      exact absurd e3 (by decide)
    · injection hk with hk
      have := (H3.out.1.a.rb_lt e).2
      exact hne k this hk.symm)
  obtain ⟨n9, hn9⟩ : ∃ n, (M.filter (keepB K)).length = n := ⟨_, rfl⟩
  have HL0 : Hid (n9 = (nearL l ps M K (J.take 0)).length) := Lib.hid (by rw [← hn9]; simp [nearL])
  rw [hn9]
  clear hn9 H3 H4 H5 HX4
  go_wp2_with fail
  go_loopw [7, 21] (fun s i wr => ∃ (kk : Nat) (Bp : Option Addr) (cp : Nat), kk ≤ J.length ∧ i = .int .i64 (kk : Int) ∧ s = .slice Bp (nearL l ps M K (J.take kk)).length cp ∧ Hid (∃ r, Nr w wr Z l ps J f C B c m r M gk K Bk ck (nearL l ps M K (J.take kk)) Bp cp)) (fun _ i _ => J.length - (RowKit.intOf i).toNat)
  case atStart => exact ⟨0, _, _, Nat.zero_le _, rfl, by rw [← HL0.out], H6⟩
  case round =>
    obtain ⟨kk, Bp, cp, hm, rfl, rfl, HP0⟩ := hrel
    clear H6
    obtain ⟨r', hP'⟩ := HP0.out
    obtain ⟨r, hr'⟩ : ∃ x, x = r' := ⟨_, rfl⟩
    subst hr'
    have HP := Lib.hid hP'
    clear hP' HP0
    by_cases hlt : kk < J.length
    · obtain ⟨x, hx⟩ : ∃ e, C[kk]? = some e := ⟨C[kk]'(by rw [HLN.out]; exact hlt), List.getElem?_eq_getElem _⟩
      obtain ⟨id, hi⟩ : ∃ e, J[kk]? = some e := ⟨J[kk], List.getElem?_eq_getElem hlt⟩
      obtain ⟨b, off, hA, hbz, hr⟩ := HP.out.cs.cl hx
      clear hbz
      have hgg := HL.out.1.get kk x id hx hi
      have hpu := hgg.2.1
      have hlen := hgg.2.2.1
      have how := hgg.2.2.2.1
      clear hgg
      have tn : Turn No wr (wr.alloc (.cells x.cs.toArray 77)) := (Turn.refl _ _).alloc _
      have HN : Hid (Nr w (wr.alloc (.cells x.cs.toArray 77)) Z l ps J f C B c m r M gk K Bk ck (nearL l ps M K (J.take kk)) Bp cp ∧ At (wr.alloc (.cells x.cs.toArray 77)) wr.heap.size (.cells x.cs.toArray 77 (0, 0))) := Lib.hid ⟨HP.out.no tn, At.new _ _⟩
      have HNS := Lib.hid (nearL_snoc (l := l) (ps := ps) (M := M) (K := K) hi)
      have hfw := HF.out.1.st HF.out.2 id
      have hnl : (nearL l ps M K (J.take kk)).length ≤ 300 := by
        have := nearL_len l ps M K (J.take kk)
        rw [List.length_take] at this
        have := HM0.out
        omega
      rw [← hpu] at hfw
      have HKO : Hid (nxO M K (stO l id) (stW l ps id) = nxO M K x.op (stW l ps id)) := Lib.hid (by rw [← hpu]; rfl)
      rw [HKO.out] at HNS
      clear HKO hpu
      obtain ⟨ws, hws⟩ : ∃ ws, stW l ps id = ws := ⟨_, rfl⟩
      rw [hws] at hlen how HNS hfw
      clear hws
      obtain ⟨xid, ⟨ok, k, v, o, had, aft, A0, len, cap0⟩, en, ⟨code, found, ak, av⟩, ah⟩ := x
      simp only at hlen how hfw
      subst hlen
      have HOW := Lib.hid (And.intro how hfw)
      have hr1 : wr.rangeAt b (off + kk * 14) [.int .i64 xid, .int .u8 ok, .string k, .string v, .string o, .bool had, .bool aft, .slice A0 ws.length cap0, .bool en, .int .i64 code, .bool found, .string ak, .string av, .int .u8 ah] := hr
      simp only [Cl.cs, Opx.cs, Ans.cs, List.cons_append, List.nil_append] at HN
      subst hA
      clear hr HP tn hx hi how hfw
      go_upto_region 6 with (refine wpList_load_mid rfl 77 _ rfl b (off + kk * 14) rfl [.int .i64 xid, .int .u8 ok, .string k, .string v, .string o, .bool had, .bool aft, .slice A0 ws.length cap0, .bool en, .int .i64 code, .bool found, .string ak, .string av, .int .u8 ah] _ hr1 Try.underlying77 rfl info77 ?_)
      clear hr1
      generalize wr.alloc (.cells #[.int .i64 xid, .int .u8 ok, .string k, .string v, .string o, .bool had, .bool aft, .slice A0 ws.length cap0, .bool en, .int .i64 code, .bool found, .string ak, .string av, .int .u8 ah] 77) = w6 at HN ⊢
      generalize wr.heap.size = g at HN ⊢
      have e1 := HN.out.2.cell 1
      have e2 := HN.out.2.cell 2
      have e3 := HN.out.2.cell 3
      have e4 := HN.out.2.cell 4
      have e5 := HN.out.2.cell 5
      have e6 := HN.out.2.cell 6
      have e7 := HN.out.2.cell 7
      simp at e1 e2 e3 e4 e5 e6 e7
      by_cases h5 : ok = 5
      · subst h5
        have CD := Lib.hid (om_do HN.out.1.so.a HN.out.1.so.tu 5 k v o had aft A0 cap0 ws (row_of_own HOW.out.1) HOW.out.2 (by have := HM0.out; omega) (a := opA M ⟨5, k, v, o, had, aft, A0, ws.length, cap0⟩ ws) rfl (doM_next M k v o had aft ws))
        have HAX : Hid (Ax M K (opA M ⟨5, k, v, o, had, aft, A0, ws.length, cap0⟩ ws) (nxO M K ⟨5, k, v, o, had, aft, A0, ws.length, cap0⟩ ws)) := Lib.hid (Ax.start rfl)
        obtain ⟨a0, ha0⟩ : ∃ a, opA M ⟨5, k, v, o, had, aft, A0, ws.length, cap0⟩ ws = a := ⟨_, rfl⟩
        obtain ⟨R, hR⟩ : ∃ a, nxO M K ⟨5, k, v, o, had, aft, A0, ws.length, cap0⟩ ws = a := ⟨_, rfl⟩
        rw [ha0] at CD HAX
        rw [hR] at HAX HNS
        clear ha0 hR
        go_upto_region 8 with (go_at_call 31; refine CD.out.mono ?_; rintro e w7 ⟨rfl, r2, hom, hr2, ht⟩; have H7 := Lib.hid (HN.out.1.step hom hr2 ht); clear hom hr2 ht)
        have H8 : Hid (Ni w Z l ps J f C (some ⟨b, off, none⟩) c m M gk K Bk ck (nearL l ps M K (J.take kk)) Bp cp w7.heap.size R (w7.alloc (.cells #[.int .i64 a0.code, .bool a0.found, .string a0.k, .string a0.v] 38))) := Lib.hid ⟨r2, a0, H7.out.no ((Turn.refl _ _).alloc _), At.new _ _, HAX.out⟩
        have HG : Hid (w.heap.size ≤ w7.heap.size) := Lib.hid H7.out.so.tu.size
        clear H7 CD HN e1 e2 e3 e4 e5 e6 e7 HAX
        generalize w7.alloc (.cells #[.int .i64 a0.code, .bool a0.found, .string a0.k, .string a0.v] 38) = w8 at H8 ⊢
        generalize w7.heap.size = g10 at H8 HG ⊢
        go_loopw [] (fun wx => Hid (Ni w Z l ps J f C (some ⟨b, off, none⟩) c m M gk K Bk ck (nearL l ps M K (J.take kk)) Bp cp g10 R wx)) (fun wx => mzW M g10 wx)
        case atStart => exact H8
        case round =>
          have HQ := Lib.hid hrel
          clear hrel H8
          obtain ⟨r3', a', h1', h2', h3'⟩ := HQ.out.out
          obtain ⟨r3, hr3⟩ : ∃ x, x = r3' := ⟨_, rfl⟩
          subst hr3
          obtain ⟨a, ha'⟩ : ∃ x, x = a' := ⟨_, rfl⟩
          subst ha'
          have HI := Lib.hid (And.intro h1' (And.intro h2' h3'))
          clear h1' h2' h3' HQ
          have z1 := HI.out.2.1.cell 1
          have z2 := HI.out.2.1.cell 2
          have z3 := HI.out.2.1.cell 3
          have x0 := HI.out.1.kbx.cell 0
          simp at z1 z2 z3 x0
          have HMZ := Lib.hid (mzW_eq (M := M) HI.out.2.1)
          cases hfo : a.found with
          | false =>
            rw [hfo] at z1
            have HK2 : Hid (nearL l ps M K (J.take (kk + 1)) = nearL l ps M K (J.take kk)) := Lib.hid (by
              rw [HNS.out, HI.out.2.2.fin (fun h => by rw [hfo] at h; cases h), hfo]
              simp)
            clear hfo
            go_wp2_with fail
            exact ⟨⟨kk + 1, Bp, cp, by omega, by go_num, by rw [HK2.out], by rw [HK2.out]; exact Lib.hid ⟨r3, HI.out.1⟩⟩, by simp [RowKit.intOf]; omega⟩
          | true =>
            rw [hfo] at z1
            have HFO := Lib.hid hfo
            have CC := Lib.hid (contains_any K Bk ck a.k wr HI.out.1.kb.2 HKL.out)
            clear hfo
            cases hck : hasK K a.k with
            | false =>
              rw [hck] at CC
              have HK2 : Hid (nearL l ps M K (J.take (kk + 1)) = nearL l ps M K (J.take kk) ++ [⟨a.k, a.v⟩]) := Lib.hid (by
                rw [HNS.out, HI.out.2.2.fin (fun _ => hck), HFO.out]
                rfl)
              clear hck
              obtain ⟨B9, c9, w9, q, hq⟩ := HI.out.1.app (Nat.le_trans HL.out.2 HI.out.1.so.tu.size) ⟨a.k, a.v⟩ (by omega)
              have HQ := Lib.hid hq
              clear hq
              go_wp2_with (first | (go_at_call 84; (with_reducible refine CC.out.mono ?_); rintro e wz ⟨rfl, hw⟩; replace hw := hw.symm; subst hw) | (at_builtin; refine wpList_append_run rfl _ _ 22 rfl _ _ _ rfl rfl q ?_))
              exact ⟨⟨kk + 1, B9, c9, by omega, by go_num, by rw [HK2.out, List.length_append]; rfl, by rw [HK2.out]; exact Lib.hid ⟨r3, HQ.out⟩⟩, by simp [RowKit.intOf]; omega⟩
            | true =>
              rw [hck] at CC
              have hbk := HBG.out a.k hck
              have hst := HI.out.2.2.step HAS.out HFO.out hck hbk
              have HST := Lib.hid hst
              have CD := Lib.hid (om_do HI.out.1.so.a HI.out.1.so.tu 5 a.k ⟨#[]⟩ ⟨#[]⟩ false true none 0 [] (Row.nil _ _) ⟨by unfold bigK at hbk; have := of_decide_eq_false hbk; omega, by decide, by decide, by decide, by simp⟩ (by have := HM0.out; omega) (a := doA M 5 a.k ⟨#[]⟩ ⟨#[]⟩ false true []) rfl (doM_next M a.k ⟨#[]⟩ ⟨#[]⟩ false true []))
              obtain ⟨b2, hb2⟩ : ∃ x, doA M 5 a.k ⟨#[]⟩ ⟨#[]⟩ false true [] = x := ⟨_, rfl⟩
              rw [hb2] at CD HST
              simp only [List.length_nil] at CD
              clear hck hbk hst hb2
              go_upto_region 9 with (go_at_call 84; (with_reducible refine CC.out.mono ?_); rintro e wz ⟨rfl, hw⟩; replace hw := hw.symm; subst hw)
              go_wp2_with (go_at_call 31; (with_reducible refine CD.out.mono ?_); rintro e w9 ⟨rfl, r9, hom, hr9, ht⟩; have H9 := Lib.hid (And.intro (HI.out.1.step hom hr9 ht) (HI.out.1.so.a.keep HI.out.2.1 (by decide) (by decide) ht)); clear hom hr9 ht; have d0 := H9.out.2.cell 0; have d1 := H9.out.2.cell 1; have d2 := H9.out.2.cell 2; have d3 := H9.out.2.cell 3; have f0 := H9.out.2.thawed 0; have f1 := H9.out.2.thawed 1; have f2 := H9.out.2.thawed 2; have f3 := H9.out.2.thawed 3; simp at d0 d1 d2 d3)
              have H10 : Hid (Nr w ((((w9.setCell ⟨g10, 0, none⟩ (.int .i64 b2.code)).setCell ⟨g10, 1, none⟩ (.bool b2.found)).setCell ⟨g10, 2, none⟩ (.string b2.k)).setCell ⟨g10, 3, none⟩ (.string b2.v)) Z l ps J f C (some ⟨b, off, none⟩) c m r9 M gk K Bk ck (nearL l ps M K (J.take kk)) Bp cp ∧ At ((((w9.setCell ⟨g10, 0, none⟩ (.int .i64 b2.code)).setCell ⟨g10, 1, none⟩ (.bool b2.found)).setCell ⟨g10, 2, none⟩ (.string b2.k)).setCell ⟨g10, 3, none⟩ (.string b2.v)) g10 (.cells #[.int .i64 b2.code, .bool b2.found, .string b2.k, .string b2.v] 38 (0, 0))) := Lib.hid ⟨H9.out.1.far H9.out.2 HG.out (turn4 _ g10 0 1 2 3 _ _ _ _), at_put4 H9.out.2 _ _ _ _⟩
              refine ⟨Lib.hid ⟨r9, b2, H10.out.1, H10.out.2, HST.out.1⟩, ?_⟩
              rw [HMZ.out, mzW_eq H10.out.2, HFO.out]
              have h1 := HST.out.2.1
              have h2 := HST.out.2.2
              split
              · exact h1 (by assumption)
              · simpa using h2
      · have k5 : (ok == 5) = false := by simpa using h5
        have k5b : (ok != 5) = true := by simpa using h5
        have HK2 : Hid (nearL l ps M K (J.take (kk + 1)) = nearL l ps M K (J.take kk)) := Lib.hid (by
          rw [HNS.out]
          have : nxO M K ⟨ok, k, v, o, had, aft, A0, ws.length, cap0⟩ ws = [] := by unfold nxO; rw [if_neg (fun h => h5 h.1)]
          rw [this, List.append_nil])
        clear h5
        go_wp2_with fail
        exact ⟨⟨kk + 1, Bp, cp, by omega, by go_num, by rw [HK2.out], by rw [HK2.out]; exact Lib.hid ⟨r, HN.out.1⟩⟩, by simp [RowKit.intOf]; omega⟩
    · obtain rfl : kk = J.length := by omega
      have HE : Hid (nearL l ps M K (J.take J.length) = nearL l ps M K J) := Lib.hid (by rw [List.take_length])
      rw [HE.out] at HP ⊢
      go_wp2_with fail
      go_ret
      exact ⟨Bp, cp, rfl, HP.out.pr, HP.out.so.tu⟩
end Go.Proofs.Ytllppkfeiifklaa
namespace Go.Proofs.Ytllppkfeiifklaa
open Go.RowKit Go.Lib
set_option linter.unusedVariables false
set_option maxRecDepth 20000
set_option linter.unusedSimpArgs false

/-- The program's answer: a right row of at most seven operations that can be gone through. -/
def SomeP (l : List Ev) (ps : List (List Wr)) (S : List Pr) : Prop := Right l ∧ (begs l).length ≤ 7 ∧ PR l ps (surv l (begs l)) (news (nearL l ps (news S) (namL l ps (surv l (begs l))) (surv l (begs l)))) 0
def SRes (l : List Ev) (ps : List (List Wr)) (S : List Pr) (w : World) (e : Ending) (w' : World) : Prop := ∃ b, e = .returned (.bool b) ∧ (b = true ↔ SomeP l ps S) ∧ Turn No w w'
theorem SRes.of {l : List Ev} {ps : List (List Wr)} {S : List Pr} {w w' : World} {e : Ending} (b : Bool) (h1 : e = .returned (.bool b)) (h2 : b = true ↔ SomeP l ps S) (h3 : Turn No w w') : SRes l ps S w e w' := ⟨b, h1, h2, h3⟩
set_option maxRecDepth 100000 in
set_option maxHeartbeats 16000000 in
theorem some_any (S : List Pr) (A : Option Addr) (cap : Nat) (l : List Ev) (ps : List (List Wr)) (B : Option Addr) (cap2 : Nat) (w : World) (hS : InP w A S.length cap S) (hn : S.length ≤ 100) (hE : InE w B cap2 l ps) :
    Calls Try.prog 19 #[.slice A S.length cap, .slice B l.length cap2] w fun e w' => SRes l ps S w e w' := by
  have hll : l.length ≤ 200 := hE.few.len
  have C21 := Lib.hid (check_any l B cap2 w hE.row hE.ids (by omega))
  have HR := Lib.hid (And.intro hS hE)
  clear hS hE
  go_enter Try.func19, Try.ntmps19
  go_upto_if 17 with (go_at_call 21; refine C21.out.mono ?_; rintro e w1 ⟨at_, code, rfl, hc, ht⟩; have H1 := Lib.hid (And.intro hc ht); clear hc ht)
  clear C21
  by_cases hz : code = 0
  · subst hz
    have hrt : Right l := by
      rcases H1.out.1 with ⟨h, _⟩ | ⟨n, _, _, h⟩
      · exact h
      · cases h
    have HRT := Lib.hid hrt
    clear hrt
    have C41 := Lib.hid (begun_any l B cap2 w1 (HR.out.2.row.no H1.out.2) (by omega))
    obtain ⟨I, hI⟩ : ∃ I, begs l = I := ⟨_, rfl⟩
    have HI := Lib.hid hI
    rw [hI] at C41
    clear hI
    go_upto_region 5 with (go_at_call 41; refine C41.out.mono ?_; rintro e w2 ⟨Bi, ci, rfl, hi⟩; have H2 := Lib.hid (And.intro hi (H1.out.2.trans hi.tu)); clear hi)
    clear C41
    by_cases h7 : I.length ≤ 7
    · have hq7 : decide ((7 : Int) < (I.length : Int)) = false := decide_eq_false (by omega)
      have hInE : InE w2 B cap2 l ps := HR.out.2.no H2.out.2
      have C42 := Lib.hid (calls_any l ps B cap2 I Bi ci w2 hInE (row_of_own H2.out.1.row) h7)
      obtain ⟨J, hJ⟩ : ∃ J, surv l I = J := ⟨_, rfl⟩
      have HJ := Lib.hid hJ
      have hJ7 : J.length ≤ 7 := by rw [← hJ]; have := surv_length l I; omega
      have HJ7 := Lib.hid hJ7
      have HI7 := Lib.hid h7
      rw [hJ] at C42
      clear hJ hInE hJ7 h7
      go_upto_region 8 with (go_at_call 42; refine C42.out.mono ?_; rintro e w3 ⟨C, Bc, cc, rfl, hcs, ht⟩; have H3 := Lib.hid (And.intro hcs (And.intro ht (H2.out.2.trans ht))); clear hcs ht)
      clear C42
      have hLN := H3.out.1.len
      have HLN := Lib.hid hLN
      clear hLN
      have H4 : Hid (Cs w2.heap.size (w3.alloc (.cells #[.slice Bc C.length cc] 70)) l ps J (ahdF l J) C Bc cc ∧ Turn No w (w3.alloc (.cells #[.slice Bc C.length cc] 70)) ∧ At (w3.alloc (.cells #[.slice Bc C.length cc] 70)) w3.heap.size (.cells #[.slice Bc C.length cc] 70 (0, 0)) ∧ w2.heap.size ≤ (w3.alloc (.cells #[.slice Bc C.length cc] 70)).heap.size) := Lib.hid (by
        have t2 : Turn No w3 (w3.alloc (.cells #[.slice Bc C.length cc] 70)) := (Turn.refl _ _).alloc _
        exact ⟨H3.out.1.no t2, H3.out.2.2.trans t2, At.new _ _, Nat.le_trans H3.out.2.1.size t2.size⟩)
      clear H3
      generalize w3.alloc (.cells #[.slice Bc C.length cc] 70) = w4 at H4 ⊢
      generalize w3.heap.size = gc at H4 ⊢
      have x0 := H4.out.2.2.1.cell 0
      simp at x0
      have C43 := Lib.hid (ended_any H4.out.1 HJ7.out)
      obtain ⟨E, hE⟩ : ∃ E, endB l J J.length = E := ⟨_, rfl⟩
      have HEE := Lib.hid hE
      rw [hE] at C43
      clear hE
      go_upto_region 9 with (go_at_call 43; refine C43.out.mono ?_; rintro e w5 ⟨rfl, ht⟩; have H5 := Lib.hid ht; clear ht)
      have H6 : Hid (Cs w2.heap.size (w5.alloc (.cells #[.int .u8 (E : Int)] 72)) l ps J (ahdF l J) C Bc cc ∧ Turn No w (w5.alloc (.cells #[.int .u8 (E : Int)] 72)) ∧ At (w5.alloc (.cells #[.int .u8 (E : Int)] 72)) gc (.cells #[.slice Bc C.length cc] 70 (0, 0)) ∧ At (w5.alloc (.cells #[.int .u8 (E : Int)] 72)) w5.heap.size (.cells #[.int .u8 (E : Int)] 72 (0, 0)) ∧ w2.heap.size ≤ (w5.alloc (.cells #[.int .u8 (E : Int)] 72)).heap.size) := Lib.hid (by
        have t2 : Turn No w4 (w5.alloc (.cells #[.int .u8 (E : Int)] 72)) := H5.out.alloc _
        exact ⟨H4.out.1.no t2, H4.out.2.1.trans t2, H4.out.2.2.1.no t2, At.new _ _, Nat.le_trans H4.out.2.2.2 t2.size⟩)
      clear H4 H5 C43 x0
      generalize w5.alloc (.cells #[.int .u8 (E : Int)] 72) = w6 at H6 ⊢
      generalize w5.heap.size = gn at H6 ⊢
      go_upto_region 11 with fail
      have H7 : Hid (Tb w2.heap.size (w6.alloc (.cells #[.func (.func 44) #[] #[.pointer (some ⟨gn, 0, none⟩), .pointer (some ⟨gc, 0, none⟩), .pointer (some ⟨w6.heap.size, 0, none⟩)]] 74)) l ps J C Bc cc gn gc w6.heap.size ∧ Turn No w (w6.alloc (.cells #[.func (.func 44) #[] #[.pointer (some ⟨gn, 0, none⟩), .pointer (some ⟨gc, 0, none⟩), .pointer (some ⟨w6.heap.size, 0, none⟩)]] 74)) ∧ w2.heap.size ≤ (w6.alloc (.cells #[.func (.func 44) #[] #[.pointer (some ⟨gn, 0, none⟩), .pointer (some ⟨gc, 0, none⟩), .pointer (some ⟨w6.heap.size, 0, none⟩)]] 74)).heap.size) := Lib.hid (by
        have t2 : Turn No w6 (w6.alloc (.cells #[.func (.func 44) #[] #[.pointer (some ⟨gn, 0, none⟩), .pointer (some ⟨gc, 0, none⟩), .pointer (some ⟨w6.heap.size, 0, none⟩)]] 74)) := (Turn.refl _ _).alloc _
        have h1 := H6.out.2.2.2.1
        rw [← HEE.out] at h1
        exact ⟨⟨h1.no t2, H6.out.2.2.1.no t2, At.new _ _, H6.out.1.no t2⟩, H6.out.2.1.trans t2, Nat.le_trans H6.out.2.2.2.2 t2.size⟩)
      clear H6
      generalize w6.alloc (.cells #[.func (.func 44) #[] #[.pointer (some ⟨gn, 0, none⟩), .pointer (some ⟨gc, 0, none⟩), .pointer (some ⟨w6.heap.size, 0, none⟩)]] 74) = w7 at H7 ⊢
      generalize w6.heap.size = gt at H7 ⊢
      obtain ⟨NP, hNP⟩ : ∃ x, nearL l ps (news S) (namL l ps J) J = x := ⟨_, rfl⟩
      have HNP := Lib.hid hNP
      have td : Turn No w7 w7.drew := (Turn.refl _ _).drew
      have TD := Lib.hid td
      have C47 := Lib.hid (near_any S A cap (w := w7.drew) ⟨HR.out.1.hlen, HR.out.1.hmax, HR.out.1.row.no (H7.out.2.1.trans td), HR.out.1.fit, HR.out.1.nil⟩ hn (H7.out.1.cs.no td) (Nat.le_trans H7.out.2.2 td.size) HJ7.out HR.out.2.few HR.out.2.rws.len)
      rw [hNP] at C47
      have hnl : NP.length ≤ 200 := by
        have h1 := nearL_len l ps (news S) (namL l ps J) J
        have h2 := news_few hn
        have h3 := HJ7.out
        rw [hNP] at h1
        omega
      have HNL := Lib.hid hnl
      have HFT : Hid (FitL NP) := Lib.hid fun p hp => HR.out.1.fit p (news_sub p (by rw [← hNP] at hp; exact nearL_sub (asc_news S) hp))
      have C44 : Hid (∀ W, Turn No w7 W → ∀ Bp cp Z2, W.ownsRow Z2 47 2 (.slice Bp NP.length cp) NP.length (pcs NP) → Calls Try.prog 44 #[.slice Bp NP.length cp, .int .u8 0, .pointer (some ⟨gn, 0, none⟩), .pointer (some ⟨gc, 0, none⟩), .pointer (some ⟨gt, 0, none⟩)] W fun e w' => TRes l ps J (news NP) 0 W e w') := Lib.hid fun W t Bp cp Z2 ho => by
        have h1 := lft_le 0 J.length
        have h2 := HNL.out
        have h3 := HJ7.out
        exact try_any h3 HR.out.2.few HR.out.2.rws.len J.length NP Bp cp 0 W h1 (H7.out.1.no t) (row_of_own ho) (fun hB => by
          rcases ho.2 with ⟨hv, _⟩ | ⟨g, c, cur, hv, _⟩
          · injection hv
          · injection hv with e1 _ _
            rw [hB] at e1; cases e1) HFT.out (by omega) (Nat.two_pow_pos _)
      clear hNP hnl td
      have hS1 : Hid (∀ W, Turn No w7 W → W.cell? ⟨gt, 0, none⟩ = some (.func (.func 44) #[] #[.pointer (some ⟨gn, 0, none⟩), .pointer (some ⟨gc, 0, none⟩), .pointer (some ⟨gt, 0, none⟩)]) ∧ W.cell? ⟨gc, 0, none⟩ = some (.slice Bc C.length cc)) := Lib.hid fun W t => ⟨(H7.out.1.no t).tbx.cell 0, (H7.out.1.no t).cbx.cell 0⟩
      have hS0 := hS1.out _ TD.out
      go_region_held3 (fun W => W.cell? ⟨gt, 0, none⟩ = some (.func (.func 44) #[] #[.pointer (some ⟨gn, 0, none⟩), .pointer (some ⟨gc, 0, none⟩), .pointer (some ⟨gt, 0, none⟩)]) ∧ W.cell? ⟨gc, 0, none⟩ = some (.slice Bc C.length cc)) (first | (with_reducible exact hS0) | (with_reducible exact hS1.out _ T9.out) | (with_reducible exact hS1.out _ T8.out)) (first | (go_at_call 47; (with_reducible refine C47.out.mono ?_); rintro e w8 ⟨Bp, cp, rfl, ho, ht⟩; have O8 := Lib.hid ho; have T8 := Lib.hid (TD.out.trans ht); clear ho ht) | (go_at_call 44; (with_reducible refine (C44.out _ T8.out _ _ _ O8.out).mono ?_); rintro e w9 hres; obtain ⟨b, rfl, hiff, ht⟩ := hres; have HI9 := Lib.hid hiff; have T9 := Lib.hid (T8.out.trans ht); clear hiff ht))
      have HFI : Hid (b = true ↔ SomeP l ps S) := Lib.hid (HI9.out.trans (by
        unfold SomeP
        rw [HI.out, HJ.out, HNP.out]
        exact ⟨fun h => ⟨HRT.out, HI7.out, h⟩, fun h => h.2.2⟩))
      go_wp2_with fail
      go_ret
      exact SRes.of b rfl HFI.out (H7.out.2.1.trans T9.out)
    · have hq7 : decide ((7 : Int) < (I.length : Int)) = true := decide_eq_true (by omega)
      have HN7 : Hid (¬ SomeP l ps S) := Lib.hid fun h => h7 (by rw [← HI.out]; exact h.2.1)
      clear h7
      go_wp2_with fail
      go_ret
      exact SRes.of false rfl ⟨fun h => by (cases h), fun h => absurd h HN7.out⟩ H2.out.2
  · have hz1 : (code == 0) = false := by simpa using hz
    have hz2 : (code != 0) = true := by simpa using hz
    have HNR : Hid (¬ SomeP l ps S) := Lib.hid fun h => hz ((H1.out.1.of_right h.1).2)
    clear hz
    go_wp2_with fail
    go_ret
    exact SRes.of false rfl ⟨fun h => by (cases h), fun h => absurd h HNR.out⟩ H1.out.2
end Go.Proofs.Ytllppkfeiifklaa
namespace Go.Proofs.Ytllppkfeiifklaa
open Go.RowKit Go.Lib
set_option linter.unusedVariables false
set_option maxRecDepth 20000
set_option linter.unusedSimpArgs false

set_option maxRecDepth 100000 in
set_option maxHeartbeats 16000000 in
theorem lafter_any (S : List Pr) (A : Option Addr) (cap : Nat) (l : List Ev) (ps : List (List Wr)) (B : Option Addr) (cap2 : Nat) (w : World) (hS : InP w A S.length cap S) (hn : S.length ≤ 100) (hE : InE w B cap2 l ps) :
    Calls Try.prog 17 #[.slice A S.length cap, .slice B l.length cap2] w fun r w' => ∃ X B c, r = .returned (.slice B X.length c) ∧ Row w' B (pcs X) ∧ Turn No w w' ∧ ((Right l ∧ X = lnM l ps (news S) l.length) ∨ (¬ Right l ∧ X = [])) := by
  have hll : l.length ≤ 200 := hE.few.len
  have hwl : (wit l).length ≤ 200 := Nat.le_trans (witF_length l l.length) hll
  have C21 := Lib.hid (check_any l B cap2 w hE.row hE.ids (by omega))
  have HR := Lib.hid (And.intro hS hE)
  have HM0 := Lib.hid (news_few hn)
  obtain ⟨M0, hM0⟩ : ∃ M, news S = M := ⟨_, rfl⟩
  have HMN := Lib.hid hM0
  rw [hM0] at HM0 ⊢
  clear hS hE hM0
  go_enter Try.func17, Try.ntmps17
  go_upto_if 16 with (go_at_call 21; refine C21.out.mono ?_; rintro e w1 ⟨at_, code, rfl, hc, ht⟩; have H1 := Lib.hid (And.intro hc ht); clear hc ht)
  clear C21
  by_cases hz : code = 0
  · subst hz
    have hrt : Right l := by
      rcases H1.out.1 with ⟨h, _⟩ | ⟨n, _, _, h⟩
      · exact h
      · cases h
    have HRT := Lib.hid hrt
    clear hrt
    have C28 := Lib.hid (so_new H1.out.2 A cap S HR.out.1 hn)
    rw [HMN.out] at C28
    go_upto_region 5 with (go_at_call 28; refine C28.out.mono ?_; rintro e w2 ⟨m, rr, rfl, hso, ht⟩; have H2 := Lib.hid (And.intro hso ht); clear hso ht)
    clear C28
    have C29 := Lib.hid (wit_any l HRT.out B cap2 w2 (HR.out.2.row.no H2.out.1.tu) HR.out.2.ids (by omega))
    go_upto_region 6 with (go_at_call 29; refine C29.out.mono ?_; rintro e w3 ⟨Bt, ct, rfl, ho, ht⟩; have H3 := Lib.hid (And.intro ho ht); clear ho ht)
    have HL0 : Hid (∃ r, Lc w w3 m r (tM l ps M0 0) Bt ct (wit l)) := Lib.hid ⟨_, H2.out.1.no H3.out.2, H3.out.1.mono H2.out.1.tu.size⟩
    clear C29 H3 H2 H1
    go_wp2_with fail
    go_loopw [22] (fun x wr => ∃ i : Nat, i ≤ (wit l).length ∧ x = .int .i64 (i : Int) ∧ Hid ((∃ r, Lc w wr m r (tM l ps M0 i) Bt ct (wit l)) ∧ True)) (fun x _ => (wit l).length - (RowKit.intOf x).toNat)
    case atStart => exact ⟨0, Nat.zero_le _, rfl, Lib.hid ⟨HL0.out, trivial⟩⟩
    case round =>
      obtain ⟨i, hi, rfl, HQ⟩ := hrel
      clear HL0
      obtain ⟨⟨r, hlc⟩, hu⟩ := HQ.out
      have HU := Lib.hid hu
      have HP := Lib.hid hlc
      clear hlc hu HQ
      by_cases hlt : i < (wit l).length
      · obtain ⟨t, ht⟩ : ∃ t, (wit l)[i]? = some t := ⟨(wit l)[i], List.getElem?_eq_getElem hlt⟩
        have HT := Lib.hid ht
        obtain ⟨b, off, hA, hb, hx⟩ := HP.out.tk ht
        have tn : Turn No wr (wr.alloc (.cells t.cs.toArray 56)) := (Turn.refl _ _).alloc _
        have HN : Hid (Lc w (wr.alloc (.cells t.cs.toArray 56)) m r (tM l ps M0 i) Bt ct (wit l) ∧ At (wr.alloc (.cells t.cs.toArray 56)) wr.heap.size (.cells t.cs.toArray 56 (0, 0))) := Lib.hid ⟨HP.out.no tn, At.new _ _⟩
        have CH := Lib.hid fun W => had_any t.an W
        have hml := tM_few HR.out.2.few HR.out.2.rws.len HM0.out ht
        have HML := Lib.hid hml
        have CD := Lib.hid fun (W : World) (hl : Lc w W m r (tM l ps M0 i) Bt ct (wit l)) => lc_do HR.out.2.rws HR.out.2.few hl ht hml
        obtain ⟨tat, tid, ⟨ok, k, v, o, had, aft, A0, len, cap0⟩, ⟨code, found, ak, av⟩⟩ := t
        have hr1 : wr.rangeAt b (off + i * 12) [.int .i64 tat, .int .u8 ok, .string k, .string v, .string o, .bool had, .bool aft, .slice A0 len cap0, .int .i64 code, .bool found, .string ak, .string av] := hx
        simp only [Tk.cs, Opx.cs, Ans.cs, List.cons_append, List.nil_append] at HN
        simp only at CH CD
        subst hA
        clear hx tn HP hb ht hml
        go_upto_region 8 with (refine wpList_load_mid rfl 56 _ rfl b (off + i * 12) rfl [.int .i64 tat, .int .u8 ok, .string k, .string v, .string o, .bool had, .bool aft, .slice A0 len cap0, .int .i64 code, .bool found, .string ak, .string av] _ hr1 Try.underlying56 rfl info56 ?_)
        clear hr1
        generalize wr.alloc (.cells #[.int .i64 tat, .int .u8 ok, .string k, .string v, .string o, .bool had, .bool aft, .slice A0 len cap0, .int .i64 code, .bool found, .string ak, .string av] 56) = w6 at HN ⊢
        generalize wr.heap.size = g at HN ⊢
        have CSS : Hid (∀ W, At W g (.cells #[.int .i64 tat, .int .u8 ok, .string k, .string v, .string o, .bool had, .bool aft, .slice A0 len cap0, .int .i64 code, .bool found, .string ak, .string av] 56 (0, 0)) → W.cell? ⟨g, 1, none⟩ = some (.int .u8 ok) ∧ W.cell? ⟨g, 2, none⟩ = some (.string k) ∧ W.cell? ⟨g, 3, none⟩ = some (.string v) ∧ W.cell? ⟨g, 4, none⟩ = some (.string o) ∧ W.cell? ⟨g, 5, none⟩ = some (.bool had) ∧ W.cell? ⟨g, 6, none⟩ = some (.bool aft) ∧ W.cell? ⟨g, 7, none⟩ = some (.slice A0 len cap0) ∧ W.cell? ⟨g, 8, none⟩ = some (.int .i64 code) ∧ W.cell? ⟨g, 9, none⟩ = some (.bool found) ∧ W.cell? ⟨g, 10, none⟩ = some (.string ak) ∧ W.cell? ⟨g, 11, none⟩ = some (.string av)) := Lib.hid fun W h => ⟨h.cell 1, h.cell 2, h.cell 3, h.cell 4, h.cell 5, h.cell 6, h.cell 7, h.cell 8, h.cell 9, h.cell 10, h.cell 11⟩
        obtain ⟨e1, e2, e3, e4, e5, e6, e7, e8, e9, e10, e11⟩ := CSS.out w6 HN.out.2
        cases hid : idleA ⟨code, found, ak, av⟩ with
        | true =>
          rw [hid] at CH
          have HM1 : Hid (tM l ps M0 (i + 1) = tM l ps M0 i) := Lib.hid (tM_idle HT.out hid)
          clear hid CD
          go_wp2_with (go_at_call 30; (with_reducible refine (CH.out _).mono ?_); rintro e wy ⟨rfl, hy⟩; replace hy := Lib.hid hy)
          have HN2 := Lib.hid (HN.out.1.no hy.out)
          exact ⟨⟨i + 1, by omega, by go_num, Lib.hid ⟨⟨r, by rw [HM1.out]; exact HN2.out⟩, trivial⟩⟩, by simp [RowKit.intOf]; omega⟩
        | false =>
          rw [hid] at CH
          have HM1 : Hid (tM l ps M0 (i + 1) = opD (tM l ps M0 i) (stO l tid) (stW l ps tid)) := Lib.hid (tM_act HT.out hid)
          clear hid
          go_upto_region 9 with (go_at_call 30; (with_reducible refine (CH.out _).mono ?_); rintro e wy ⟨rfl, hy⟩; replace hy := Lib.hid hy)
          have CD2 := Lib.hid (CD.out wy (HN.out.1.no hy.out))
          clear CD e1 e2 e3 e4 e5 e6 e7 e8 e9 e10 e11
          obtain ⟨e1, e2, e3, e4, e5, e6, e7, e8, e9, e10, e11⟩ := CSS.out wy (HN.out.2.no hy.out)
          go_wp2_with (go_at_call 31; (with_reducible refine CD2.out.mono ?_); rintro e wz ⟨rfl, r', hz1, hz2⟩; replace hz1 := Lib.hid hz1; clear hz2)
          exact ⟨⟨i + 1, by omega, by go_num, Lib.hid ⟨⟨r', by rw [HM1.out]; exact hz1.out⟩, trivial⟩⟩, by simp [RowKit.intOf]; omega⟩
      · obtain rfl : i = (wit l).length := by omega
        have CA := Lib.hid (all_any HP.out.so.a)
        have HE : Hid (tM l ps M0 (wit l).length = lnM l ps M0 l.length) := Lib.hid (tM_end l ps M0)
        rw [HE.out] at CA
        go_wp2_with (go_at_call 39; refine CA.out.mono ?_; rintro e w9 ⟨B9, rfl, ho, ht⟩; have H9 := Lib.hid (And.intro ho ht); clear ho ht)
        go_ret
        exact ⟨_, _, _, rfl, row_of_own H9.out.1, HP.out.so.tu.trans H9.out.2, .inl ⟨HRT.out, rfl⟩⟩
  · have hz1 : (code == 0) = false := by simpa using hz
    have hz2 : (code != 0) = true := by simpa using hz
    have HNR : Hid (¬ Right l) := Lib.hid fun hr => hz ((H1.out.1.of_right hr).2)
    clear hz
    go_wp2_with fail
    go_ret
    exact ⟨[], _, _, rfl, Row.nil _ _, H1.out.2, .inr ⟨HNR.out, rfl⟩⟩
end Go.Proofs.Ytllppkfeiifklaa
