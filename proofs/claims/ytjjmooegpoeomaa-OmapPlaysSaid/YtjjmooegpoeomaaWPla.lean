/-
  OmapPlays: whatever is done, the map answers as the document's does.
-/
import Derived.Test.YtjjmooegpoeomaaWRk
namespace Go.Proofs.Ytjjmooegpoeomaa
open Go.RowKit Go.Lib
set_option linter.unusedVariables false
set_option linter.unusedSimpArgs false

/-- The map, and the document's beside it. -/
structure Pl (w wr : World) (mp : Nat) (r : Option Nat) (M : List Pr) (g6 : Nat) (R : List Pr) (m : Nat) (B : Option Addr) (c : Nat) : Prop where
  so : So w wr mp r M
  box : At wr g6 (.cells #[.slice B m c] 29 (0, 0))
  row : wr.ownsRow w.heap.size 50 2 (.slice B m c) m (pcs R)
  dj : ∀ k, r = some k → (Value.slice B m c).ownBlock ≠ some k
  hm : R.length = m
  o6 : w.heap.size ≤ g6
section
variable {w wr w2 : World} {mp g6 m c : Nat} {r : Option Nat} {M R : List Pr} {B : Option Addr}
theorem Pl.no (h : Pl w wr mp r M g6 R m B c) (t : Turn No wr w2) : Pl w w2 mp r M g6 R m B c := ⟨h.so.no t, h.box.no t, own_grown h.row t (fun _ _ h => h), h.dj, h.hm, h.o6⟩
theorem Pl.fit (h : Pl w wr mp r M g6 R m B c) (hs : Sim R M) : ∀ p ∈ R, Fit p.k ∧ Fit p.v := fun p hp => h.so.a.fit p (hs.mem hp)
theorem Pl.set (h : Pl w wr mp r M g6 R m B c) {g : Nat} {cs : Array Value} (hg : At wr g (.cells cs 35 (0, 0))) (hn : w.heap.size ≤ g) (t : Turn (fun k => k = g) wr w2) : Pl w w2 mp r M g6 R m B c := by
  have hap := h.so.a.apart hg (by decide) (by decide)
  refine ⟨⟨h.so.a.turn t (fun e => hap.1 e.symm) (fun k hk e => hap.2 (by rw [hk, e])), h.so.tu.then t (fun i hi e => by omega)⟩, h.box.turn t (fun e => ?_), own_grown h.row t (fun k hk e => ?_), h.dj, h.hm, h.o6⟩
  · subst e
    have := h.box.eq hg
    injection this with _ e _
    exact absurd e (by decide)
  · subst e
    exact own_ne h.row hg (by decide) hk
theorem Pl.did (h : Pl w wr mp r M g6 R m B c) {r2 : Option Nat} {M2 : List Pr} (hom : Om w2 w.heap.size mp r2 M2) (hr : r2 = r ∨ ∃ k, r2 = some k ∧ wr.heap.size ≤ k) (t : Turn (Mp mp r) wr w2) : Pl w w2 mp r2 M2 g6 R m B c := by
  refine ⟨⟨hom, turn_mp h.so.a h.so.tu t⟩, h.so.a.keep h.box (by decide) (by decide) t, own_grown h.row t (fun k hk e => ?_), fun k hk e => ?_, h.hm, h.o6⟩
  · rcases e with e | e
    · subst e
      obtain ⟨A, cap, h0, _⟩ := h.so.a.rowed
      exact own_ne h.row h0 (by decide) hk
    · exact h.dj k e hk
  · rcases hr with e2 | ⟨q, e2, hq⟩
    · rw [e2] at hk; exact h.dj k hk e
    · rw [e2] at hk
      injection hk with hk
      have := (h.row.lt k e).2
      omega
theorem Pl.put (h : Pl w wr mp r M g6 R m B c) {R2 : List Pr} {m2 : Nat} {B2 : Option Addr} {c2 : Nat} (ho : wr.ownsRow w.heap.size 50 2 (.slice B2 m2 c2) m2 (pcs R2)) (hd : ∀ k, r = some k → (Value.slice B2 m2 c2).ownBlock ≠ some k) (hm : R2.length = m2) :
    Pl w (wr.setCell ⟨g6, 0, none⟩ (.slice B2 m2 c2)) mp r M g6 R2 m2 B2 c2 := by
  have t : Turn (fun k => k = g6) wr (wr.setCell ⟨g6, 0, none⟩ (.slice B2 m2 c2)) := Turn.set1 _ _ _ _
  have hap := h.so.a.apart h.box (by decide) (by decide)
  refine ⟨⟨h.so.a.turn t (fun e => hap.1 e.symm) (fun k hk e => hap.2 (by rw [hk, e])), h.so.tu.then t (fun i hi e => by have := h.o6; omega)⟩, by simpa using h.box.set 0 (.slice B2 m2 c2), own_grown ho t (fun k hk e => ?_), hd, hm, h.o6⟩
  subst e
  exact own_ne ho h.box (by decide) hk
theorem Pl.dj2 (h : Pl w wr mp r M g6 R m B c) {m2 : Nat} {B2 : Option Addr} {c2 : Nat} {W : World} (hW : wr.heap.size ≤ W.heap.size) (hold : ∀ k, (Value.slice B2 m2 c2).ownBlock = some k → (Value.slice B m c).ownBlock = some k ∨ W.heap.size ≤ k) : ∀ k, r = some k → (Value.slice B2 m2 c2).ownBlock ≠ some k := fun k hk e => by
  rcases hold k e with h1 | h1
  · exact h.dj k hk h1
  · have := (h.so.a.rb_lt hk).2
    omega
end
theorem at_put4 {w : World} {g : Nat} {x0 x1 x2 x3 : Value} (h : At w g (.cells #[x0, x1, x2, x3] 35 (0, 0))) (y0 y1 y2 y3 : Value) : At ((((w.setCell ⟨g, 0, none⟩ y0).setCell ⟨g, 1, none⟩ y1).setCell ⟨g, 2, none⟩ y2).setCell ⟨g, 3, none⟩ y3) g (.cells #[y0, y1, y2, y3] 35 (0, 0)) := by
  simpa using (((h.set 0 y0).set 1 y1).set 2 y2).set 3 y3
/-- An operation's cells, in a row that came in. -/
def OC (W : World) (b o : Nat) (x : Opx) : Prop := W.cell? ⟨b, o, none⟩ = some (.int .u8 x.kind) ∧ W.cell? ⟨b, o + 1, none⟩ = some (.string x.k) ∧ W.cell? ⟨b, o + 2, none⟩ = some (.string x.v) ∧ W.cell? ⟨b, o + 3, none⟩ = some (.string x.o) ∧ W.cell? ⟨b, o + 4, none⟩ = some (.bool x.had) ∧ W.cell? ⟨b, o + 5, none⟩ = some (.bool x.aft) ∧ W.cell? ⟨b, o + 6, none⟩ = some (.slice x.A x.len x.cap)
theorem oc_of {w : World} {A : Option Addr} {l : List Opx} (h : Row w A (ocs l)) {j : Nat} {x : Opx} (hj : l[j]? = some x) : ∃ b o, A = some ⟨b, o, none⟩ ∧ ∀ W, Turn No w W → OC W b (o + j * 7) x := by
  obtain ⟨b, o, hA, hb, hc⟩ := h.opx hj
  refine ⟨b, o, hA, fun W t => ?_⟩
  have hx : ∀ i u, i < 7 → x.cs[i]? = some u → W.cell? ⟨b, o + j * 7 + i, none⟩ = some u := fun i u hi hu => (World.cell?_of_block (w := w) (t.block b hb (fun h => h))).trans (hc i u hi hu)
  exact ⟨hx 0 _ (by decide) rfl, hx 1 _ (by decide) rfl, hx 2 _ (by decide) rfl, hx 3 _ (by decide) rfl, hx 4 _ (by decide) rfl, hx 5 _ (by decide) rfl, hx 6 _ (by decide) rfl⟩

set_option maxRecDepth 100000 in
set_option maxHeartbeats 16000000 in
theorem plays_any (A : Option Addr) (cap : Nat) (l : List Pr) (B0 : Option Addr) (cap2 : Nat) (ops : List Opx) (ps : List (List Wr)) (w : World) (hl : InP w A l.length cap l) (ho : InOs w B0 ops.length cap2 ops ps) :
    Calls Try.prog 3 #[.slice A l.length cap, .slice B0 ops.length cap2] w fun e w' => e = .returned (.bool true) ∧ Turn No w w' := by
  have HR := Lib.hid (And.intro hl ho)
  have CW := Lib.hid wakes_any
  have CG := Lib.hid (great_any A cap l B0 cap2 ops ps w hl ho)
  have hm1 := hl.hmax
  have hm2 := ho.hmax
  unfold maxLen at hm1 hm2
  clear hl ho
  go_enter Try.func3, Try.ntmps3
  go_upto_if 12 with (go_at_call 9; refine CG.out.mono ?_; rintro e w1 ⟨⟨bv, rfl, hP⟩, ht⟩; have HG := Lib.hid (And.intro hP ht); clear hP ht; cases bv)
  · clear CG
    have hF := HG.out.1 (by first | rfl | trivial)
    have HF := Lib.hid hF
    have C1 := Lib.hid (so_new HG.out.2 A cap l HR.out.1 hF.nl)
    have hno : ops.length ≤ 100 := hF.no
    have hnl : l.length ≤ 100 := hF.nl
    clear hF
    go_upto_region 4 with (go_at_call 11; refine C1.out.mono ?_; rintro e w3 ⟨mp, rr, rfl, hso, ht⟩; have H3 := Lib.hid hso; clear hso ht)
    clear C1 HG
    have C2 := Lib.hid (rnew_any l A cap w3 (HR.out.1.row.no H3.out.tu) (by omega))
    go_upto_region 5 with (go_at_call 12; refine C2.out.mono ?_; rintro e w4 ⟨B, c, rfl, ho, ht⟩; have H4 := Lib.hid (And.intro ho ht); clear ho ht)
    have HP0 : Hid (Pl w (w4.alloc (.cells #[.slice B (newR l).length c] 29)) mp (some rr) (news l) w4.heap.size (newR l) (newR l).length B c) := Lib.hid (by
      have t2 : Turn No w4 (w4.alloc (.cells #[.slice B (newR l).length c] 29)) := (Turn.refl _ _).alloc _
      have t3 := H4.out.2.trans t2
      have h3 := H3.out.no t3
      have ho : (w4.alloc (.cells #[.slice B (newR l).length c] 29)).ownsRow w3.heap.size 50 2 (.slice B (newR l).length c) (newR l).length (pcs (newR l)) := own_grown H4.out.1 t2 (fun _ _ h => h)
      refine ⟨h3, At.new _ _, ho.mono H3.out.tu.size, fun k hk e => ?_, rfl, ?_⟩
      · have h1 := (H4.out.1.lt k e).1
        have h2 := (H3.out.a.rb_lt hk).2
        omega
      · exact Nat.le_trans H3.out.tu.size H4.out.2.size)
    have HSM0 := Lib.hid (new_sim l)
    have HL0 : Hid ((news l).length ≤ 40000) := Lib.hid (by have := news_few hnl; omega)
    have HLn := Lib.hid (news_few hnl)
    clear H3 H4 C2
    generalize w4.alloc (.cells #[.slice B (newR l).length c] 29) = w5 at HP0 ⊢
    generalize w4.heap.size = g6 at HP0 ⊢
    obtain ⟨m, hmm⟩ : ∃ m, (newR l).length = m := ⟨_, rfl⟩
    rw [hmm] at HP0 ⊢
    clear hmm
    obtain ⟨R, hRR⟩ : ∃ R, newR l = R := ⟨_, rfl⟩
    obtain ⟨M, hMM⟩ : ∃ M, news l = M := ⟨_, rfl⟩
    rw [hRR, hMM] at HP0 HSM0
    rw [hMM] at HL0 HLn
    clear hRR hMM
    go_cut [27] from 18 to 27 (fun s wx => s = .bool false ∧ Hid (Turn No w5 wx))
    case first =>
      have HP := Lib.hid HP0.out
      have HSM := Lib.hid HSM0.out
      have HL := Lib.hid HL0.out
      have CA : Hid (∀ W, Turn No w5 W → Calls Try.prog 14 #[.pointer (some ⟨mp, 0, none⟩)] W fun e w' => ∃ B1, e = .returned (.slice (some ⟨B1, 0, none⟩) M.length M.length) ∧ Row w' (some ⟨B1, 0, none⟩) (pcs M) ∧ Turn No W w') := Lib.hid fun W t => (all_any (HP.out.so.a.no t)).mono fun e w' h => by
        obtain ⟨B1, he, ho, ht⟩ := h
        exact ⟨B1, he, row_of_own ho, ht⟩
      have CB : Hid (∀ W, Turn No w5 W → Calls Try.prog 15 #[.agg #[.slice B m c]] W fun e w' => ∃ B2 c2, e = .returned (.slice B2 M.length c2) ∧ Row w' B2 (pcs M) ∧ Turn No W w') := Lib.hid fun W t => by
        have hm := HP.out.hm
        have := rall_any R B c W (by rw [← hm] at HP; exact (row_of_own HP.out.row).no t) (by have := HL.out; have := HSM.out.len; omega) (HP.out.fit HSM.out) HSM.out HP.out.so.a.asc
        rw [hm] at this
        exact this.mono fun e w' h => by
          obtain ⟨B2, c2, he, ho, ht⟩ := h
          exact ⟨B2, c2, he, row_of_own ho, ht⟩
      have CS : Hid (∀ (W : World) (B1 : Nat) (B2 : Option Addr) (c2 : Nat), Row W (some ⟨B1, 0, none⟩) (pcs M) → Row W B2 (pcs M) → Calls Try.prog 13 #[.slice (some ⟨B1, 0, none⟩) M.length M.length, .slice B2 M.length c2] W fun e w' => e = .returned (.bool true) ∧ Turn No W w') := Lib.hid fun W B1 B2 c2 r1 r2 => by
        have := same_any (some ⟨B1, 0, none⟩) M.length M B2 c2 M W r1 r2 (by have := HL.out; omega)
        rw [decide_eq_true rfl] at this
        exact this
      have td : Hid (Turn No w5 w5.drew) := Lib.hid (Turn.refl _ _).drew
      have hS0 : w5.drew.cell? ⟨g6, 0, none⟩ = some (.slice B m c) := by simpa using HP.out.box.cell 0
      have hS1 : Hid (∀ W, Turn No w5 W → W.cell? ⟨g6, 0, none⟩ = some (.slice B m c)) := Lib.hid fun W t => by simpa using (HP.out.box.no t).cell 0
      clear HP0 HSM0 HL0 HP HSM HL
      go_region_held3 (fun W => W.cell? ⟨g6, 0, none⟩ = some (.slice B m c)) (first | (with_reducible exact hS0) | (with_reducible exact hS1.out _ TA.out) | (with_reducible exact hS1.out _ TB.out) | (with_reducible exact hS1.out _ TD.out)) (first | (go_at_call 14; (with_reducible refine (CA.out _ TB.out).mono ?_); rintro e wa ⟨B1, rfl, ra, ta⟩; have RA := Lib.hid ra; have RB := Lib.hid (RB.out.no ta); have TA := Lib.hid (TB.out.trans ta); clear ra ta) | (go_at_call 14; (with_reducible refine (CA.out _ td.out).mono ?_); rintro e wa ⟨B1, rfl, ra, ta⟩; have RA := Lib.hid ra; have TA := Lib.hid (td.out.trans ta); clear ra ta) | (go_at_call 15; (with_reducible refine (CB.out _ TA.out).mono ?_); rintro e wb ⟨B2, c2, rfl, rb, tb⟩; have RB := Lib.hid rb; have RA := Lib.hid (RA.out.no tb); have TB := Lib.hid (TA.out.trans tb); clear rb tb) | (go_at_call 15; (with_reducible refine (CB.out _ td.out).mono ?_); rintro e wb ⟨B2, c2, rfl, rb, tb⟩; have RB := Lib.hid rb; have TB := Lib.hid (td.out.trans tb); clear rb tb) | (go_at_call 13; (with_reducible refine (CS.out _ _ _ _ RA.out RB.out).mono ?_); rintro e wd ⟨rfl, td2⟩; have TD : Hid (Turn No w5 wd) := (by first | exact Lib.hid (TA.out.trans td2) | exact Lib.hid (TB.out.trans td2)); clear td2))
      all_goals go_wp2_with fail
      all_goals go_meet
      all_goals exact ⟨rfl, TD⟩
    case rest =>
      obtain ⟨rfl, HT⟩ := hcut
      have H5 : Hid (∃ r M R m B c, Pl w wc mp r M g6 R m B c ∧ Sim R M ∧ M.length ≤ 100 + 50 * 0) := Lib.hid ⟨_, M, R, m, B, c, HP0.out.no HT.out, HSM0.out, by have := HLn.out; omega⟩
      clear HP0 HSM0 HL0 HLn HT
      go_upto_region 8 with fail
      go_loopw [7] (fun x wr => ∃ ii : Nat, ii ≤ ops.length ∧ x = .int .i64 (ii : Int) ∧ Hid (∃ r M R m B c, Pl w wr mp r M g6 R m B c ∧ Sim R M ∧ M.length ≤ 100 + 50 * ii)) (fun x _ => ops.length - (RowKit.intOf x).toNat)
      case atStart => exact ⟨0, Nat.zero_le _, rfl, H5⟩
      case round =>
        obtain ⟨ii, hi, rfl, HQ⟩ := hrel
        clear H5
        obtain ⟨r, M', R', m', B', c', hp, hs, hlen⟩ := HQ.out
        obtain ⟨M, hM'⟩ : ∃ x, x = M' := ⟨_, rfl⟩
        subst hM'
        obtain ⟨R, hR'⟩ : ∃ x, x = R' := ⟨_, rfl⟩
        subst hR'
        obtain ⟨m, hm'⟩ : ∃ x, x = m' := ⟨_, rfl⟩
        subst hm'
        obtain ⟨B, hB'⟩ : ∃ x, x = B' := ⟨_, rfl⟩
        subst hB'
        obtain ⟨c, hc'⟩ : ∃ x, x = c' := ⟨_, rfl⟩
        subst hc'
        have HP := Lib.hid hp
        have HSM := Lib.hid hs
        have HLM := Lib.hid hlen
        have HL : Hid (M.length ≤ 40000) := Lib.hid (by omega)
        clear hp hs hlen HQ
        by_cases hlt : ii < ops.length
        · as_aux_lemma =>
            obtain ⟨x, hx⟩ : ∃ x, ops[ii]? = some x := ⟨ops[ii], List.getElem?_eq_getElem hlt⟩
            obtain ⟨ws, hws⟩ : ∃ ws, ps[ii]? = some ws := ⟨ps[ii]'(by rw [HR.out.2.plen]; exact hlt), List.getElem?_eq_getElem _⟩
            have hin := HR.out.2.get ii x ws hx hws
            have hfew := HF.out.w ii x ws hx hws
            obtain ⟨b, o, hB, hoc⟩ := oc_of HR.out.2.row hx
            obtain ⟨kd, k, v, ov, had, aft, A3, len3, cap3⟩ := x
            have hlen3 : ws.length = len3 := hin.row.hlen
            subst hlen3
            have HOC := Lib.hid hoc
            obtain ⟨x0, x1, x2, x3, x4, x5, x6⟩ := hoc wr HP.out.so.tu
            simp only at x0 x1 x2 x3 x4 x5 x6 hfew
            subst hB
            have HIN := Lib.hid (And.intro hin hfew)
            have hq1 : (0 : Int) ≤ (ii : Int) := by omega
            have hq2 : (ii : Int) < (ops.length : Int) := by omega
            have hwn : ws.length ≤ 40 := hfew.n
            obtain ⟨M2, hM2⟩ : ∃ M2, doM M kd k v ov had aft ws = M2 := ⟨_, rfl⟩
            obtain ⟨aa, haa⟩ : ∃ a, doA M kd k v ov had aft ws = a := ⟨_, rfl⟩
            obtain ⟨R2, hR2⟩ : ∃ a, doR R kd k v ov had aft ws = a := ⟨_, rfl⟩
            have HA := Lib.hid (And.intro hM2 (And.intro haa hR2))
            have HS2 : Hid (Sim R2 M2 ∧ M2.length ≤ 100 + 50 * (ii + 1)) := Lib.hid ⟨by rw [← hM2, ← hR2]; exact HSM.out.doR HP.out.so.a.asc kd k v ov had aft ws, by have h1 := doM_length M kd k v ov had aft ws; have h2 := HLM.out; rw [hM2] at h1; omega⟩
            clear hoc hin hfew hM2 haa hR2 hx hws
            have t8 : Turn No wr (wr.alloc (.cells #[.int .i64 0, .bool false, .string ⟨#[]⟩, .string ⟨#[]⟩] 35)) := (Turn.refl _ _).alloc _
            have H5 : Hid (Pl w (wr.alloc (.cells #[.int .i64 0, .bool false, .string ⟨#[]⟩, .string ⟨#[]⟩] 35)) mp r M g6 R m B c ∧ At (wr.alloc (.cells #[.int .i64 0, .bool false, .string ⟨#[]⟩, .string ⟨#[]⟩] 35)) wr.heap.size (.cells #[.int .i64 0, .bool false, .string ⟨#[]⟩, .string ⟨#[]⟩] 35 (0, 0)) ∧ w.heap.size ≤ wr.heap.size) := Lib.hid ⟨HP.out.no t8, At.new _ _, HP.out.so.tu.size⟩
            clear t8
            go_upto_region 11 with fail
            generalize wr.alloc (.cells #[.int .i64 0, .bool false, .string ⟨#[]⟩, .string ⟨#[]⟩] 35) = w5 at H5 ⊢
            generalize wr.heap.size = g8 at H5 ⊢
            clear x0 x1 x2 x3 x4 x5 x6
            have HM := Lib.hid (And.intro HP.out.so.a.asc (HP.out.fit HSM.out))
            clear HP
            obtain ⟨x0, x1, x2, x3, x4, x5, x6⟩ := HOC.out w5 H5.out.1.so.tu
            simp only at x0 x1 x2 x3 x4 x5 x6
            have CD := Lib.hid (om_do H5.out.1.so.a H5.out.1.so.tu kd k v ov had aft A3 cap3 ws HIN.out.1.row.row HIN.out.2 (by have := HLM.out; omega) HA.out.2.1 HA.out.1)
            go_upto_region 12 with (go_at_call 16; refine CD.out.mono ?_; rintro e w6 ⟨rfl, r1, hom, hr, ht⟩; have H6 : Hid (Pl w w6 mp r1 M2 g6 R m B c ∧ At w6 g8 (.cells #[.int .i64 0, .bool false, .string ⟨#[]⟩, .string ⟨#[]⟩] 35 (0, 0))) := Lib.hid ⟨H5.out.1.did hom hr ht, H5.out.1.so.a.keep H5.out.2.1 (by decide) (by decide) ht⟩; clear hom hr ht)
            have t9 : Turn No w6 (w6.alloc (.cells #[.int .i64 aa.code, .bool aa.found, .string aa.k, .string aa.v] 35)) := (Turn.refl _ _).alloc _
            have H7 : Hid (Pl w (w6.alloc (.cells #[.int .i64 aa.code, .bool aa.found, .string aa.k, .string aa.v] 35)) mp r1 M2 g6 R m B c ∧ At (w6.alloc (.cells #[.int .i64 aa.code, .bool aa.found, .string aa.k, .string aa.v] 35)) g8 (.cells #[.int .i64 0, .bool false, .string ⟨#[]⟩, .string ⟨#[]⟩] 35 (0, 0)) ∧ At (w6.alloc (.cells #[.int .i64 aa.code, .bool aa.found, .string aa.k, .string aa.v] 35)) w6.heap.size (.cells #[.int .i64 aa.code, .bool aa.found, .string aa.k, .string aa.v] 35 (0, 0)) ∧ w.heap.size ≤ g8 ∧ g8 ≠ w6.heap.size) := Lib.hid ⟨H6.out.1.no t9, H6.out.2.no t9, At.new _ _, H5.out.2.2, by have := H6.out.2.lt; omega⟩
            clear t9 CD H6 H5 x0 x1 x2 x3 x4 x5 x6
            generalize w6.alloc (.cells #[.int .i64 aa.code, .bool aa.found, .string aa.k, .string aa.v] 35) = w7 at H7 ⊢
            generalize w6.heap.size = g9 at H7 ⊢
            go_cut [] from 40 to 48 (fun wx => ∃ B2 c2, Hid (Pl w wx mp r1 M2 g6 R2 M2.length B2 c2 ∧ At wx g8 (.cells #[.int .i64 aa.code, .bool aa.found, .string aa.k, .string aa.v] 35 (0, 0)) ∧ At wx g9 (.cells #[.int .i64 aa.code, .bool aa.found, .string aa.k, .string aa.v] 35 (0, 0))))
            case first =>
              obtain ⟨x0, x1, x2, x3, x4, x5, x6⟩ := HOC.out w7 H7.out.1.so.tu
              simp only at x0 x1 x2 x3 x4 x5 x6
              have b0 := H7.out.1.box.cell 0
              simp at b0
              have tdr : Turn No w7 w7.drew := (Turn.refl _ _).drew
              have H7d : Hid (Pl w w7.drew mp r1 M2 g6 R m B c ∧ At w7.drew g8 (.cells #[.int .i64 0, .bool false, .string ⟨#[]⟩, .string ⟨#[]⟩] 35 (0, 0)) ∧ At w7.drew g9 (.cells #[.int .i64 aa.code, .bool aa.found, .string aa.k, .string aa.v] 35 (0, 0))) := Lib.hid ⟨H7.out.1.no tdr, H7.out.2.1.no tdr, H7.out.2.2.1.no tdr⟩
              have CR : Hid (Calls Try.prog 17 #[.agg #[.slice B m c], .agg #[.int .u8 kd, .string k, .string v, .string ov, .bool had, .bool aft, .slice A3 ws.length cap3]] w7.drew (RDo w.heap.size w7.drew (.slice B m c) R2 aa)) := Lib.hid (by
                have hm := H7d.out.1.hm
                have := rdo_any R M B c kd k v ov had aft A3 cap3 ws w7.drew (Z := w.heap.size) H7d.out.1.so.tu.size (by rw [hm]; exact H7d.out.1.row) (by have h1 := HLM.out; have h2 := HSM.out.len; omega) HM.out.2 HSM.out HM.out.1 (HIN.out.1.row.row.no H7d.out.1.so.tu) HIN.out.1.fit HIN.out.1.row.fit
                rw [hm, HA.out.2.1, HA.out.2.2] at this
                exact this)
              have n68 : ¬ g6 = g8 := fun e => by
                subst e
                have := H7.out.1.box.eq H7.out.2.1
                injection this with _ e _
                exact absurd e (by decide)
              have n86 : ¬ g8 = g6 := fun e => n68 e.symm
              clear tdr
              go_region_law (first | (go_simp; go_at_call 17; (with_reducible refine CR.out.mono ?_); rintro e w8 ⟨B2, c2, rfl, ho, hold, ht⟩; have H8 := Lib.hid (And.intro ho (And.intro hold ht)); clear ho hold ht; have z0 := (H7d.out.1.no H8.out.2.2).box.cell 0; have zf := (H7d.out.1.no H8.out.2.2).box.thawed 0; have d0 := (H7d.out.2.1.no H8.out.2.2).cell 0; have d1 := (H7d.out.2.1.no H8.out.2.2).cell 1; have d2 := (H7d.out.2.1.no H8.out.2.2).cell 2; have d3 := (H7d.out.2.1.no H8.out.2.2).cell 3; have f0 := (H7d.out.2.1.no H8.out.2.2).thawed 0; have f1 := (H7d.out.2.1.no H8.out.2.2).thawed 1; have f2 := (H7d.out.2.1.no H8.out.2.2).thawed 2; have f3 := (H7d.out.2.1.no H8.out.2.2).thawed 3; simp at z0 d0 d1 d2 d3))
              all_goals go_wp2_with fail
              all_goals go_meet
              all_goals (
                have h8 := H7d.out.1.no H8.out.2.2
                have a8 := H7d.out.2.1.no H8.out.2.2
                have a9 := H7d.out.2.2.no H8.out.2.2
                have hdj := H7d.out.1.dj2 (Nat.le_refl _) H8.out.2.1
                have hlen2 := HS2.out.1.len
                refine ⟨B2, c2, Lib.hid ?_⟩
                rw [← hlen2]
                first
                  | exact ⟨(h8.put H8.out.1 hdj rfl).set (a8.turn (Turn.set1 w8 g6 0 _) n86) H7.out.2.2.2.1 (turn4 _ g8 0 1 2 3 _ _ _ _), at_put4 (a8.turn (Turn.set1 w8 g6 0 _) n86) _ _ _ _, (a9.turn (Turn.set1 w8 g6 0 _) (fun e => by subst e; have := h8.box.eq a9; injection this with _ e _; exact absurd e (by decide))).turn (turn4 _ g8 0 1 2 3 _ _ _ _) (fun e => H7.out.2.2.2.2 e.symm)⟩
                  | exact ⟨(h8.set a8 H7.out.2.2.2.1 (turn4 w8 g8 0 1 2 3 _ _ _ _)).put (own_grown H8.out.1 (turn4 w8 g8 0 1 2 3 _ _ _ _) (fun k hk e => by subst e; exact own_ne H8.out.1 a8 (by decide) hk)) hdj rfl, (at_put4 a8 _ _ _ _).turn (Turn.set1 _ g6 0 _) n86, (a9.turn (turn4 w8 g8 0 1 2 3 _ _ _ _) (fun e => H7.out.2.2.2.2 e.symm)).turn (Turn.set1 _ g6 0 _) (fun e => by subst e; have := h8.box.eq a9; injection this with _ e _; exact absurd e (by decide))⟩)
            case rest =>
              obtain ⟨B2, c2, HC⟩ := hcut
              clear H7
              generalize wc = w8 at HC ⊢
              obtain ⟨ev, hev⟩ : ∃ e, refO kd k v ov had ws = e := ⟨_, rfl⟩
              have C18 : Hid (∀ W, Turn No w8 W → Calls Try.prog 18 #[.agg #[.int .u8 kd, .string k, .string v, .string ov, .bool had, .bool aft, .slice A3 ws.length cap3]] W fun e w' => e = .returned (.int .i64 ev) ∧ Turn No W w') := Lib.hid fun W t => by
                rw [← hev]
                exact refused_any kd k v ov had aft A3 cap3 ws W (HIN.out.1.row.row.no (HC.out.1.so.tu.trans t)) HIN.out.1.fit.1 HIN.out.1.fit.2.1 HIN.out.1.fit.2.2 HIN.out.1.row.fit (by omega)
              have C19 : Hid (∀ W, Turn No w8 W → Calls Try.prog 19 #[.agg #[.int .u8 kd, .string k, .string v, .string ov, .bool had, .bool aft, .slice A3 ws.length cap3]] W fun e w' => e = .returned (.int .i64 ev) ∧ Turn No W w') := Lib.hid fun W t => by
                rw [← hev]
                exact rrefused_any kd k v ov had aft A3 cap3 ws W (HIN.out.1.row.row.no (HC.out.1.so.tu.trans t)) HIN.out.1.fit.1 HIN.out.1.fit.2.1 HIN.out.1.fit.2.2 HIN.out.1.row.fit (by omega)
              have C20 : Hid (∀ W, Turn No w8 W → Calls Try.prog 20 #[.pointer (some ⟨mp, 0, none⟩)] W fun e w' => e = .returned (.int .i64 (M2.length : Int)) ∧ w' = W) := Lib.hid fun W t => len_any (HC.out.1.so.a.no t)
              have qn := fun W => neq_ans aa.code aa.code aa.found aa.found aa.k aa.k aa.v aa.v W
              rw [ansEq_same] at qn
              have qv : (ev != ev) = false := by simp
              have qm : ((M2.length : Int) != (M2.length : Int)) = false := by simp
              have td : Hid (Turn No w8 w8.drew) := Lib.hid (Turn.refl _ _).drew
              have hSS : Hid (∀ W, Turn No w8 W → W.cell? ⟨g9, 0, none⟩ = some (.int .i64 aa.code) ∧ W.cell? ⟨g9, 1, none⟩ = some (.bool aa.found) ∧ W.cell? ⟨g9, 2, none⟩ = some (.string aa.k) ∧ W.cell? ⟨g9, 3, none⟩ = some (.string aa.v) ∧ W.cell? ⟨g8, 0, none⟩ = some (.int .i64 aa.code) ∧ W.cell? ⟨g8, 1, none⟩ = some (.bool aa.found) ∧ W.cell? ⟨g8, 2, none⟩ = some (.string aa.k) ∧ W.cell? ⟨g8, 3, none⟩ = some (.string aa.v) ∧ W.cell? ⟨b, o + ii * 7, none⟩ = some (.int .u8 kd) ∧ W.cell? ⟨b, o + ii * 7 + 1, none⟩ = some (.string k) ∧ W.cell? ⟨b, o + ii * 7 + 2, none⟩ = some (.string v) ∧ W.cell? ⟨b, o + ii * 7 + 3, none⟩ = some (.string ov) ∧ W.cell? ⟨b, o + ii * 7 + 4, none⟩ = some (.bool had) ∧ W.cell? ⟨b, o + ii * 7 + 5, none⟩ = some (.bool aft) ∧ W.cell? ⟨b, o + ii * 7 + 6, none⟩ = some (.slice A3 ws.length cap3) ∧ W.cell? ⟨g6, 0, none⟩ = some (.slice B2 M2.length c2)) := Lib.hid fun W t => by
                obtain ⟨x0, x1, x2, x3, x4, x5, x6⟩ := HOC.out W (HC.out.1.so.tu.trans t)
                have b0 := (HC.out.1.no t).box.cell 0
                have c8 := (HC.out.2.1.no t).cell
                have c9 := (HC.out.2.2.no t).cell
                simp at b0
                exact ⟨by simpa using c9 0, by simpa using c9 1, by simpa using c9 2, by simpa using c9 3, by simpa using c8 0, by simpa using c8 1, by simpa using c8 2, by simpa using c8 3, x0, x1, x2, x3, x4, x5, x6, b0⟩
              have hS0 := hSS.out _ td.out
              clear hev
              go_upto_region 13 with fail
              go_cut [72] from 49 to 72 (fun s wx => s = .bool false ∧ Hid (Turn No w8 wx))
              case first =>
                go_region_held3 (fun W => W.cell? ⟨g9, 0, none⟩ = some (.int .i64 aa.code) ∧ W.cell? ⟨g9, 1, none⟩ = some (.bool aa.found) ∧ W.cell? ⟨g9, 2, none⟩ = some (.string aa.k) ∧ W.cell? ⟨g9, 3, none⟩ = some (.string aa.v) ∧ W.cell? ⟨g8, 0, none⟩ = some (.int .i64 aa.code) ∧ W.cell? ⟨g8, 1, none⟩ = some (.bool aa.found) ∧ W.cell? ⟨g8, 2, none⟩ = some (.string aa.k) ∧ W.cell? ⟨g8, 3, none⟩ = some (.string aa.v) ∧ W.cell? ⟨b, o + ii * 7, none⟩ = some (.int .u8 kd) ∧ W.cell? ⟨b, o + ii * 7 + 1, none⟩ = some (.string k) ∧ W.cell? ⟨b, o + ii * 7 + 2, none⟩ = some (.string v) ∧ W.cell? ⟨b, o + ii * 7 + 3, none⟩ = some (.string ov) ∧ W.cell? ⟨b, o + ii * 7 + 4, none⟩ = some (.bool had) ∧ W.cell? ⟨b, o + ii * 7 + 5, none⟩ = some (.bool aft) ∧ W.cell? ⟨b, o + ii * 7 + 6, none⟩ = some (.slice A3 ws.length cap3) ∧ W.cell? ⟨g6, 0, none⟩ = some (.slice B2 M2.length c2)) (first | (with_reducible exact hS0) | (with_reducible exact hSS.out _ T18.out) | (with_reducible exact hSS.out _ T19.out)) (first | (go_at_call 18; (with_reducible refine (C18.out _ T19.out).mono ?_); rintro e wp ⟨rfl, tp⟩; have T18 := Lib.hid (T19.out.trans tp); clear tp) | (go_at_call 18; (with_reducible refine (C18.out _ td.out).mono ?_); rintro e wp ⟨rfl, tp⟩; have T18 := Lib.hid (td.out.trans tp); clear tp) | (go_at_call 19; (with_reducible refine (C19.out _ T18.out).mono ?_); rintro e wq ⟨rfl, tq⟩; have T19 := Lib.hid (T18.out.trans tq); clear tq) | (go_at_call 19; (with_reducible refine (C19.out _ td.out).mono ?_); rintro e wq ⟨rfl, tq⟩; have T19 := Lib.hid (td.out.trans tq); clear tq) | (go_at_call 20; (with_reducible refine (C20.out _ T18.out).mono ?_); rintro e wn ⟨rfl, hw⟩; subst hw) | (go_at_call 20; (with_reducible refine (C20.out _ T19.out).mono ?_); rintro e wn ⟨rfl, hw⟩; subst hw))
                all_goals go_wp2_with fail
                all_goals go_meet
                all_goals first
                  | exact ⟨rfl, T18⟩
                  | exact ⟨rfl, T19⟩
              case rest =>
                obtain ⟨rfl, HT⟩ := hcut
                have HN : Hid (∃ r M R m B c, Pl w wc mp r M g6 R m B c ∧ Sim R M ∧ M.length ≤ 100 + 50 * (ii + 1)) := Lib.hid ⟨_, M2, R2, _, B2, c2, HC.out.1.no HT.out, HS2.out.1, HS2.out.2⟩
                clear HC hS0 hSS C18 C19 C20 qn qv qm
                go_wp2_with fail
                exact ⟨⟨ii + 1, by omega, by go_num, HN⟩, by simp [RowKit.intOf]; omega⟩
        · obtain rfl : ii = ops.length := by omega
          have CA : Hid (∀ W, Turn No wr W → Calls Try.prog 14 #[.pointer (some ⟨mp, 0, none⟩)] W fun e w' => ∃ B1, e = .returned (.slice (some ⟨B1, 0, none⟩) M.length M.length) ∧ Row w' (some ⟨B1, 0, none⟩) (pcs M) ∧ Turn No W w') := Lib.hid fun W t => (all_any (HP.out.so.a.no t)).mono fun e w' h => by
            obtain ⟨B1, he, ho, ht⟩ := h
            exact ⟨B1, he, row_of_own ho, ht⟩
          have CB : Hid (∀ W, Turn No wr W → Calls Try.prog 15 #[.agg #[.slice B m c]] W fun e w' => ∃ B2 c2, e = .returned (.slice B2 M.length c2) ∧ Row w' B2 (pcs M) ∧ Turn No W w') := Lib.hid fun W t => by
            have hm := HP.out.hm
            have := rall_any R B c W (by rw [← hm] at HP; exact (row_of_own HP.out.row).no t) (by have := HL.out; have := HSM.out.len; omega) (HP.out.fit HSM.out) HSM.out HP.out.so.a.asc
            rw [hm] at this
            exact this.mono fun e w' h => by
              obtain ⟨B2, c2, he, ho, ht⟩ := h
              exact ⟨B2, c2, he, row_of_own ho, ht⟩
          have CS : Hid (∀ (W : World) (B1 : Nat) (B2 : Option Addr) (c2 : Nat), Row W (some ⟨B1, 0, none⟩) (pcs M) → Row W B2 (pcs M) → Calls Try.prog 13 #[.slice (some ⟨B1, 0, none⟩) M.length M.length, .slice B2 M.length c2] W fun e w' => e = .returned (.bool true) ∧ Turn No W w') := Lib.hid fun W B1 B2 c2 r1 r2 => by
            have := same_any (some ⟨B1, 0, none⟩) M.length M B2 c2 M W r1 r2 (by have := HL.out; omega)
            rw [decide_eq_true rfl] at this
            exact this
          have td : Hid (Turn No wr wr.drew) := Lib.hid (Turn.refl _ _).drew
          have hS0 : wr.drew.cell? ⟨g6, 0, none⟩ = some (.slice B m c) := by simpa using HP.out.box.cell 0
          have hS1 : Hid (∀ W, Turn No wr W → W.cell? ⟨g6, 0, none⟩ = some (.slice B m c)) := Lib.hid fun W t => by simpa using (HP.out.box.no t).cell 0
          go_upto_region 15 with fail
          have HTU := Lib.hid HP.out.so.tu
          clear HP HSM HL HLM
          go_region_held3 (fun W => W.cell? ⟨g6, 0, none⟩ = some (.slice B m c)) (first | (with_reducible exact hS0) | (with_reducible exact hS1.out _ TA.out) | (with_reducible exact hS1.out _ TB.out) | (with_reducible exact hS1.out _ TD.out) | (with_reducible exact hS1.out _ TE.out)) (first | (go_at_call 14; (with_reducible refine (CA.out _ TB.out).mono ?_); rintro e wa ⟨B1, rfl, ra, ta⟩; have RA := Lib.hid ra; have RB := Lib.hid (RB.out.no ta); have TA := Lib.hid (TB.out.trans ta); clear ra ta) | (go_at_call 14; (with_reducible refine (CA.out _ td.out).mono ?_); rintro e wa ⟨B1, rfl, ra, ta⟩; have RA := Lib.hid ra; have TA := Lib.hid (td.out.trans ta); clear ra ta) | (go_at_call 15; (with_reducible refine (CB.out _ TA.out).mono ?_); rintro e wb ⟨B2, c2, rfl, rb, tb⟩; have RB := Lib.hid rb; have RA := Lib.hid (RA.out.no tb); have TB := Lib.hid (TA.out.trans tb); clear rb tb) | (go_at_call 15; (with_reducible refine (CB.out _ td.out).mono ?_); rintro e wb ⟨B2, c2, rfl, rb, tb⟩; have RB := Lib.hid rb; have TB := Lib.hid (td.out.trans tb); clear rb tb) | (go_at_call 13; (with_reducible refine (CS.out _ _ _ _ RA.out RB.out).mono ?_); rintro e wd ⟨rfl, td2⟩; have TD : Hid (Turn No wr wd) := (by first | exact Lib.hid (TA.out.trans td2) | exact Lib.hid (TB.out.trans td2)); clear td2) | (go_at_call 10; (with_reducible refine (CW.out _).mono ?_); rintro e we ⟨rfl, te⟩; have TE : Hid (Turn No wr we) := Lib.hid (TD.out.trans te); clear te))
          all_goals go_wp2_with fail
          all_goals go_ret
          all_goals exact ⟨rfl, HTU.out.trans TE.out⟩
  · go_wp2_with (go_at_call 10; refine (CW.out _).mono ?_; rintro e w3 ⟨rfl, ht⟩)
    go_ret
    exact ⟨rfl, HG.out.2.trans ht⟩
end Go.Proofs.Ytjjmooegpoeomaa
