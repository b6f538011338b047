/-
  HistoryOwn's walk.
-/
import Derived.Test.YthopiamiipmobaaOwnA
import Derived.Below
namespace Go.Proofs.Ythopiamiipmobaa
open Go.RowKit Go.Lib
set_option linter.unusedVariables false
set_option linter.unusedSimpArgs false

theorem Turn.bel' {w w' : World} (h : Turn No w w') : Below w.heap.size w w' := h.below (Nat.le_refl _) fun _ _ h => h
set_option maxHeartbeats 8000000 in
set_option maxRecDepth 100000 in
theorem own_law (A : Option Addr) (len1 cap : Nat) (l : List Ev) (ps : List (List Wr)) (w : World) (h : Inp w A len1 cap l ps) :
    Calls Try.prog 6 #[.slice A len1 cap] w fun r w' => r = .returned (.bool true) ∧ Below w.heap.size w w' := by
  have hlen := h.hlen
  subst hlen
  have CG := Lib.hid (great_any l _ cap w h.row h.hmax h.wlen)
  have CW := Lib.hid wakes_any
  have HI := Lib.hid h
  clear h
  go_enter Try.func6, Try.ntmps6
  go_upto_if 16 with (go_at_call 8; refine CG.out.mono ?_; rintro e w1 ⟨rfl, hg⟩; rcases hg with rfl | ⟨rfl, hg⟩)
  · go_wp2_with (go_at_call 9; refine (CW.out _).mono ?_; rintro e w2 ⟨rfl, ht⟩; have HT := Lib.hid ht; clear ht)
    go_ret
    exact ⟨rfl, HT.out.bel'⟩
  have HG := Lib.hid (And.intro hg.1 (HI.out.rws fun e he => by have := hg.2 e he; unfold few at this; omega))
  clear hg CG
  have CN := Lib.hid (Ow.start w1)
  go_upto_region 4 with (go_at_call 10; refine CN.out.mono ?_; rintro e w2 ⟨rfl, ho⟩; have HO := Lib.hid ho; clear ho)
  clear CN
  obtain ⟨hb, hhb⟩ : ∃ hb, w1.heap.size = hb := ⟨_, rfl⟩
  rw [hhb] at HO ⊢
  clear hhb
  go_wp2_with fail
  go_loopw [4] (fun i wr => ∃ (kk : Nat) (L : List Ev) (qs : List (List Wr)), kk ≤ l.length ∧ i = .int .i64 (kk : Int) ∧ Hid (L.length ≤ 3 * kk ∧ Ow w1 wr hb L qs)) (fun i _ => l.length - (RowKit.intOf i).toNat)
  case atStart => exact ⟨0, [], [], Nat.zero_le _, rfl, Lib.hid ⟨Nat.zero_le _, HO.out⟩⟩
  case round =>
    obtain ⟨kk, L, qs, hk, rfl, HP⟩ := hrel
    clear HO
    by_cases hlt : kk < l.length
    · obtain ⟨e, he⟩ : ∃ e, l[kk]? = some e := ⟨l[kk], List.getElem?_eq_getElem hlt⟩
      obtain ⟨b, off, hA, _, _⟩ := HI.out.row.ev he
      have hx : Hid (∀ W, Turn No w1 W → ∀ i u, e.cs[i]? = some u → W.cell? ⟨b, off + kk * 13 + i, none⟩ = some u) := Lib.hid fun W t => by
        obtain ⟨b', off', e1, _, h1⟩ := (HI.out.row.turn t fun _ _ _ h => h).ev he
        rw [hA] at e1
        injection e1 with e1; injection e1 with e3 e4
        subst e3 e4
        exact h1
      obtain ⟨ws, hws, hrw, hfit⟩ := HG.out.2.at_ he
      obtain ⟨kind, id, ⟨ok, k, v, o, had, aft, A0, len, cap0⟩, ⟨code, found, ak, av⟩⟩ := e
      have HF : Hid (In64 id ∧ Opx.fit ⟨ok, k, v, o, had, aft, A0, len, cap0⟩ ws ∧ Ans.fit ⟨code, found, ak, av⟩ ∧ Row w1 A0 (wcs ws)) := Lib.hid ⟨hfit.id, hfit.op', hfit.an', hrw⟩
      subst hA
      clear he hws hrw hfit
      have hkl : Hid (kk < 200) := Lib.hid (by have := HG.out.1; omega)
      go_upto_region 7 with fail
      have HD := Lib.hid (HP.out.2.no (Turn.refl No wr).drew)
      have C1 : Hid (Calls Try.prog 11 #[.pointer (some ⟨hb, 0, none⟩), .int .i64 id, .agg #[.int .u8 ok, .string k, .string v, .string o, .bool had, .bool aft, .slice A0 len cap0]] wr.drew fun r w' => ∃ c, r = .returned (.int .i64 c) ∧ Put w1 w' hb L qs ⟨1, id, ⟨ok, k, v, o, had, aft, A0, len, cap0⟩, ans00⟩ ws c) :=
        Lib.hid (HD.out.begin (by have := HP.out.1; have := hkl.out; omega) id HF.out.1 ⟨ok, k, v, o, had, aft, A0, len, cap0⟩ ws HF.out.2.1 HF.out.2.2.2)
      have hS0 : wr.drew.cell? ⟨b, off + kk * 13 + 1, none⟩ = some (.int .i64 id) ∧ wr.drew.cell? ⟨b, off + kk * 13 + 2, none⟩ = some (.int .u8 ok) ∧ wr.drew.cell? ⟨b, off + kk * 13 + 3, none⟩ = some (.string k) ∧ wr.drew.cell? ⟨b, off + kk * 13 + 4, none⟩ = some (.string v) ∧ wr.drew.cell? ⟨b, off + kk * 13 + 5, none⟩ = some (.string o) ∧ wr.drew.cell? ⟨b, off + kk * 13 + 6, none⟩ = some (.bool had) ∧ wr.drew.cell? ⟨b, off + kk * 13 + 7, none⟩ = some (.bool aft) ∧ wr.drew.cell? ⟨b, off + kk * 13 + 8, none⟩ = some (.slice A0 len cap0) := ⟨(hx.out _ HD.out.tu) 1 _ rfl, (hx.out _ HD.out.tu) 2 _ rfl, (hx.out _ HD.out.tu) 3 _ rfl, (hx.out _ HD.out.tu) 4 _ rfl, (hx.out _ HD.out.tu) 5 _ rfl, (hx.out _ HD.out.tu) 6 _ rfl, (hx.out _ HD.out.tu) 7 _ rfl, (hx.out _ HD.out.tu) 8 _ rfl⟩
      have hS1 : Hid (∀ W L2 q2, Ow w1 W hb L2 q2 → W.cell? ⟨b, off + kk * 13 + 1, none⟩ = some (.int .i64 id) ∧ W.cell? ⟨b, off + kk * 13 + 2, none⟩ = some (.int .u8 ok) ∧ W.cell? ⟨b, off + kk * 13 + 3, none⟩ = some (.string k) ∧ W.cell? ⟨b, off + kk * 13 + 4, none⟩ = some (.string v) ∧ W.cell? ⟨b, off + kk * 13 + 5, none⟩ = some (.string o) ∧ W.cell? ⟨b, off + kk * 13 + 6, none⟩ = some (.bool had) ∧ W.cell? ⟨b, off + kk * 13 + 7, none⟩ = some (.bool aft) ∧ W.cell? ⟨b, off + kk * 13 + 8, none⟩ = some (.slice A0 len cap0)) := Lib.hid fun W L2 q2 ho => ⟨(hx.out _ ho.tu) 1 _ rfl, (hx.out _ ho.tu) 2 _ rfl, (hx.out _ ho.tu) 3 _ rfl, (hx.out _ ho.tu) 4 _ rfl, (hx.out _ ho.tu) 5 _ rfl, (hx.out _ ho.tu) 6 _ rfl, (hx.out _ ho.tu) 7 _ rfl, (hx.out _ ho.tu) 8 _ rfl⟩
      go_region_held3 (fun W => W.cell? ⟨b, off + kk * 13 + 1, none⟩ = some (.int .i64 id) ∧ W.cell? ⟨b, off + kk * 13 + 2, none⟩ = some (.int .u8 ok) ∧ W.cell? ⟨b, off + kk * 13 + 3, none⟩ = some (.string k) ∧ W.cell? ⟨b, off + kk * 13 + 4, none⟩ = some (.string v) ∧ W.cell? ⟨b, off + kk * 13 + 5, none⟩ = some (.string o) ∧ W.cell? ⟨b, off + kk * 13 + 6, none⟩ = some (.bool had) ∧ W.cell? ⟨b, off + kk * 13 + 7, none⟩ = some (.bool aft) ∧ W.cell? ⟨b, off + kk * 13 + 8, none⟩ = some (.slice A0 len cap0)) (first | (with_reducible exact hS0) | (with_reducible exact hS1.out _ _ _ hy.out)) (first | (go_at_call 11; (with_reducible refine C1.out.mono ?_); rintro e wy ⟨c, rfl, hp0⟩; obtain ⟨L2, q2, hl2, ho2⟩ := hp0.some; have hy := Lib.hid ho2; replace hl2 := Lib.hid hl2; clear hp0 ho2))
      clear hS0 hS1 C1 HD
      go_upto_if 39 with fail
      generalize ((kk : Int) % 2 == 0) = q39
      cases q39
      · have hlx : Hid (L2.length ≤ 3 * kk + 1) := Lib.hid (by have := hl2.out; have := HP.out.1; omega)
        have x1 := hx.out _ hy.out.tu 1 _ rfl
        dsimp only at x1
        have C3 := Lib.hid (hy.out.ended (by have := hlx.out; have := hkl.out; omega) id HF.out.1)
        go_upto_if 54 with fail
        generalize ((kk : Int) % 3 == 0) = q54
        have hlim := HG.out.1
        cases q54
        · go_wp2_with fail
          exact ⟨⟨kk + 1, _, _, by omega, by go_num, Lib.hid ⟨by have := hlx.out; omega, hy.out⟩⟩, by simp [RowKit.intOf]; omega⟩
        · go_wp2_with (go_at_call 13; (with_reducible refine C3.out.mono ?_); rintro e w13 ⟨c, rfl, hp0⟩; obtain ⟨L5, q5, hl5, ho5⟩ := hp0.some; have hy5 := Lib.hid ho5; replace hl5 := Lib.hid hl5; clear hp0 ho5)
          exact ⟨⟨kk + 1, _, _, by omega, by go_num, Lib.hid ⟨by have := hlx.out; have := hl5.out; omega, hy5.out⟩⟩, by simp [RowKit.intOf]; omega⟩
      · go_upto_region 9 with fail
        have HD := Lib.hid (hy.out.no (Turn.refl No wy).drew)
        have C2 : Hid (Calls Try.prog 12 #[.pointer (some ⟨hb, 0, none⟩), .int .i64 id, .agg #[.int .i64 code, .bool found, .string ak, .string av]] wy.drew fun r w' => ∃ c, r = .returned (.int .i64 c) ∧ Put w1 w' hb L2 q2 ⟨2, id, op00, ⟨code, found, ak, av⟩⟩ [] c) :=
          Lib.hid (HD.out.mark (by have := hl2.out; have := HP.out.1; have := hkl.out; omega) id HF.out.1 ⟨code, found, ak, av⟩ HF.out.2.2.1)
        have hS0 : wy.drew.cell? ⟨b, off + kk * 13 + 1, none⟩ = some (.int .i64 id) ∧ wy.drew.cell? ⟨b, off + kk * 13 + 9, none⟩ = some (.int .i64 code) ∧ wy.drew.cell? ⟨b, off + kk * 13 + 10, none⟩ = some (.bool found) ∧ wy.drew.cell? ⟨b, off + kk * 13 + 11, none⟩ = some (.string ak) ∧ wy.drew.cell? ⟨b, off + kk * 13 + 12, none⟩ = some (.string av) := ⟨(hx.out _ HD.out.tu) 1 _ rfl, (hx.out _ HD.out.tu) 9 _ rfl, (hx.out _ HD.out.tu) 10 _ rfl, (hx.out _ HD.out.tu) 11 _ rfl, (hx.out _ HD.out.tu) 12 _ rfl⟩
        have hS1 : Hid (∀ W L3 q3, Ow w1 W hb L3 q3 → W.cell? ⟨b, off + kk * 13 + 1, none⟩ = some (.int .i64 id) ∧ W.cell? ⟨b, off + kk * 13 + 9, none⟩ = some (.int .i64 code) ∧ W.cell? ⟨b, off + kk * 13 + 10, none⟩ = some (.bool found) ∧ W.cell? ⟨b, off + kk * 13 + 11, none⟩ = some (.string ak) ∧ W.cell? ⟨b, off + kk * 13 + 12, none⟩ = some (.string av)) := Lib.hid fun W L3 q3 ho => ⟨(hx.out _ ho.tu) 1 _ rfl, (hx.out _ ho.tu) 9 _ rfl, (hx.out _ ho.tu) 10 _ rfl, (hx.out _ ho.tu) 11 _ rfl, (hx.out _ ho.tu) 12 _ rfl⟩
        go_region_held3 (fun W => W.cell? ⟨b, off + kk * 13 + 1, none⟩ = some (.int .i64 id) ∧ W.cell? ⟨b, off + kk * 13 + 9, none⟩ = some (.int .i64 code) ∧ W.cell? ⟨b, off + kk * 13 + 10, none⟩ = some (.bool found) ∧ W.cell? ⟨b, off + kk * 13 + 11, none⟩ = some (.string ak) ∧ W.cell? ⟨b, off + kk * 13 + 12, none⟩ = some (.string av)) (first | (with_reducible exact hS0) | (with_reducible exact hS1.out _ _ _ hy3.out)) (first | (go_at_call 12; (with_reducible refine C2.out.mono ?_); rintro e wy3 ⟨c3, rfl, hp0⟩; obtain ⟨L3, q3, hl3, ho3⟩ := hp0.some; have hy3 := Lib.hid ho3; replace hl3 := Lib.hid hl3; clear hp0 ho3))
        clear hS0 hS1 C2 HD
        have hlx : Hid (L3.length ≤ 3 * kk + 2) := Lib.hid (by have := hl2.out; have := hl3.out; have := HP.out.1; omega)
        have x1 := hx.out _ hy3.out.tu 1 _ rfl
        dsimp only at x1
        have C3 := Lib.hid (hy3.out.ended (by have := hlx.out; have := hkl.out; omega) id HF.out.1)
        go_upto_if 54 with fail
        generalize ((kk : Int) % 3 == 0) = q54
        have hlim := HG.out.1
        cases q54
        · go_wp2_with fail
          exact ⟨⟨kk + 1, _, _, by omega, by go_num, Lib.hid ⟨by have := hlx.out; omega, hy3.out⟩⟩, by simp [RowKit.intOf]; omega⟩
        · go_wp2_with (go_at_call 13; (with_reducible refine C3.out.mono ?_); rintro e w13 ⟨c, rfl, hp0⟩; obtain ⟨L5, q5, hl5, ho5⟩ := hp0.some; have hy5 := Lib.hid ho5; replace hl5 := Lib.hid hl5; clear hp0 ho5)
          exact ⟨⟨kk + 1, _, _, by omega, by go_num, Lib.hid ⟨by have := hlx.out; have := hl5.out; omega, hy5.out⟩⟩, by simp [RowKit.intOf]; omega⟩
    · obtain rfl : kk = l.length := by omega
      have hn := HP.out.1
      have hLL : L.length ≤ 600 := by have := HG.out.1; omega
      have C5 := Lib.hid (events_any HP.out.2.hs (by omega))
      go_upto_region 13 with (go_at_call 17; refine C5.out.mono ?_; rintro e wa ⟨la, Ba, ca, rfl, hta, hpa, hva⟩; have HA := Lib.hid (And.intro hta (And.intro hpa hva)); clear hta hpa hva)
      have C6 := Lib.hid (events_any (HP.out.2.no HA.out.1).hs (by omega))
      go_upto_region 14 with (go_at_call 17; refine C6.out.mono ?_; rintro e wb ⟨lb, Bb, cb, rfl, htb, hpb, hvb⟩; have HBB := Lib.hid (And.intro htb (And.intro hpb hvb)); clear htb hpb hvb)
      obtain ⟨Za, hZa⟩ : ∃ z, wr.heap.size = z := ⟨_, rfl⟩
      obtain ⟨Zb, hZb⟩ : ∃ z, wa.heap.size = z := ⟨_, rfl⟩
      have HO := Lib.hid (Ob.start HP.out.2 HA.out.2.2 HA.out.1 HA.out.2.1 HBB.out.1 HBB.out.2.2 HBB.out.2.1)
      rw [hZa, hZb] at HO
      have hla : la.length = L.length := by rw [← HA.out.2.1, pl_length]
      have hlb : lb.length = L.length := by rw [← HBB.out.2.1, pl_length]
      clear hZa hZb C5 C6 HA HBB HP hn
      go_wp2_with fail
      go_loopw [7] (fun i wr2 => ∃ ii : Nat, ii ≤ L.length ∧ i = .int .i64 (ii : Int) ∧ Hid (Ob w1 wr2 hb L qs Za Zb Ba la Bb cb lb)) (fun i _ => L.length - (RowKit.intOf i).toNat)
      case atStart => exact ⟨0, Nat.zero_le _, rfl, HO⟩
      case round =>
        obtain ⟨ii, hii, rfl, HQ⟩ := hrel
        clear HO
        by_cases hi2 : ii < L.length
        · obtain ⟨e, he⟩ : ∃ e, la[ii]? = some e := ⟨la[ii]'(by omega), List.getElem?_eq_getElem (by omega)⟩
          obtain ⟨rb, cur, hA, hz1, hz2, hat, hsz, h8⟩ := HQ.out.a.row ii e he
          subst hA
          have x1 : ∃ u, wr.cell? ⟨rb, ii * 13 + 1, none⟩ = some u := ⟨cur[ii * 13 + 1]'(by omega), by rw [hat.cell, Array.getElem?_eq_getElem]⟩
          obtain ⟨u1, x1⟩ := x1
          have f1 := hat.thawed (ii * 13 + 1)
          have HN : Hid (Ob w1 (wr.setCell ⟨rb, ii * 13 + 1, none⟩ (.int .i64 (-5))) hb L qs Za Zb (some ⟨rb, 0, none⟩) la Bb cb lb) := Lib.hid (HQ.out.put (set_turn _ _ _ _) hz1 hz2 (HQ.out.a.setId rfl hz1 _))
          clear hat hsz h8
          go_upto_region 18 with fail
          generalize wr.setCell ⟨rb, ii * 13 + 1, none⟩ (.int .i64 (-5)) = ws1 at HN ⊢
          clear x1 f1 HQ
          have HE := Lib.hid he
          have hml : Hid (e.op.len ≤ 100000) := Lib.hid (by
            have h1 := pl_get HN.out.pa he
            obtain ⟨w9, _, hf⟩ := HN.out.hs.fit h1
            exact hf.few)
          clear he
          obtain ⟨kind, id, ⟨ok, k, v, o, had, aft, A0, len, cap0⟩, an⟩ := e
          go_wp2_with fail
          go_loopw [8] (fun i wr3 => ∃ k2 : Nat, k2 ≤ len ∧ i = .int .i64 (k2 : Int) ∧ Hid (Ob w1 wr3 hb L qs Za Zb (some ⟨rb, 0, none⟩) la Bb cb lb)) (fun i _ => len - (RowKit.intOf i).toNat)
          case atStart => exact ⟨0, Nat.zero_le _, rfl, HN⟩
          case round =>
            obtain ⟨k2, hk2, rfl, HQ⟩ := hrel
            clear HN
            obtain ⟨rb', cur, hA, hz1', hz2', hat, hsz, h8⟩ := HQ.out.a.row ii _ HE.out
            obtain rfl : rb' = rb := by injection hA with hA; injection hA with hA; exact hA.symm
            have x8 : wr.cell? ⟨rb', ii * 13 + 8, none⟩ = some (.slice A0 len cap0) := by rw [hat.cell]; exact h8
            clear hat hsz h8
            have hlim := hml.out
            by_cases hlt2 : k2 < len
            · obtain ⟨qb, cur2, hA2, hy1, hy2, hat2, hsz2⟩ := HQ.out.a.wr ii _ HE.out (by show 0 < len; omega)
              dsimp only at hA2 hsz2
              subst hA2
              have x9 : ∃ u, wr.cell? ⟨qb, k2 * 3, none⟩ = some u := ⟨cur2[k2 * 3]'(by omega), by rw [hat2.cell, Array.getElem?_eq_getElem]⟩
              obtain ⟨u9, x9⟩ := x9
              have f9 := hat2.thawed (k2 * 3)
              have HN : Hid (Ob w1 (wr.setCell ⟨qb, k2 * 3, none⟩ (.string ⟨#[119, 114, 105, 116, 116, 101, 110, 32, 111, 118, 101, 114]⟩)) hb L qs Za Zb (some ⟨rb', 0, none⟩) la Bb cb lb) := Lib.hid (HQ.out.put (set_turn _ _ _ _) hy1 hy2 (HQ.out.a.setWr HE.out (by show 0 < len; omega) rfl _ _))
              clear hat2 hsz2
              go_wp2_with fail
              exact ⟨⟨k2 + 1, by omega, by go_num, HN⟩, by simp [RowKit.intOf]; omega⟩
            · obtain rfl : k2 = len := by omega
              go_wp2_with fail
              exact ⟨⟨ii + 1, by omega, by go_num, HQ⟩, by simp [RowKit.intOf]; omega⟩
        · obtain rfl : ii = L.length := by omega
          have hrb := right_of_pl _ lb rfl (by rw [HQ.out.pb]; exact HQ.out.hs.right)
          have C7 := Lib.hid (check_any lb Bb cb wr HQ.out.b.read HQ.out.b.ids (by omega))
          rw [hlb] at C7
          have HR := Lib.hid hrb
          clear hrb
          have CB : Hid (∀ W, Calls Try.prog 11 #[.pointer none, .int .i64 1, .agg #[.int .u8 0, .string ⟨#[]⟩, .string ⟨#[]⟩, .string ⟨#[]⟩, .bool false, .bool false, .slice none 0 0]] W fun r w' => r = .returned (.int .i64 2) ∧ Turn No W w') := Lib.hid fun W => begin_nil 1 op00 W
          have CM : Hid (∀ W, Calls Try.prog 12 #[.pointer none, .int .i64 1, .agg #[.int .i64 0, .bool false, .string ⟨#[]⟩, .string ⟨#[]⟩]] W fun r w' => r = .returned (.int .i64 2) ∧ Turn No W w') := Lib.hid fun W => mark_nil 1 ans00 W
          have CE := Lib.hid (end_nil 1)
          have CV := Lib.hid events_nil
          go_upto_region 23 with (go_at_call 18; refine C7.out.mono ?_; rintro e w3 ⟨at_, code, rfl, hc, ht⟩; have H3 := Lib.hid (And.intro hc (HQ.out.no ht)); clear hc ht)
          obtain ⟨rfl, rfl⟩ := H3.out.1.of_right HR.out
          have HO3 := Lib.hid H3.out.2
          clear H3 C7 HQ
          go_upto_region 25 with (go_at_call 11; (with_reducible refine (CB.out _).mono ?_); rintro e w4 ⟨rfl, ht⟩; have HO4 := Lib.hid (HO3.out.no ht); clear ht)
          go_upto_region 26 with (go_at_call 12; (with_reducible refine (CM.out _).mono ?_); rintro e w5 ⟨rfl, ht⟩; have HO5 := Lib.hid (HO4.out.no ht); clear ht)
          go_upto_region 27 with (go_at_call 13; (with_reducible refine (CE.out _).mono ?_); rintro e w6 ⟨rfl, ht⟩; have HO6 := Lib.hid (HO5.out.no ht); clear ht)
          have C8 := Lib.hid (events_any HO6.out.hs (by omega))
          have CS : Hid (∀ W lc Bc cc, Ob w1 W hb L qs Za Zb Ba la Bb cb lb → pl lc = L → Row W Bc (ecs lc) → Rws W lc qs → Calls Try.prog 16 #[.slice Bb L.length cb, .slice Bc L.length cc] W fun r w' => r = .returned (.bool true) ∧ Turn No W w') := Lib.hid fun W lc Bc cc ho hp hrow hrws => by
            have := same_any lb lc qs Bb Bc cb cc W (ho.pb.trans hp.symm) (by omega) ho.b.read hrow ho.b.wss.rws hrws
            rwa [hlb] at this
          clear HO3 HO4 HO5
          go_wp2_with (first | (go_at_call 17; (with_reducible refine C8.out.mono ?_); rintro e w7 ⟨lc, Bc, cc, rfl, ht, hp, hv⟩; have H7 := Lib.hid (And.intro (HO6.out.no ht) (And.intro hp hv)); clear ht hp hv) | (go_at_call 16; (with_reducible refine (CS.out _ _ _ _ H7.out.1 H7.out.2.1 H7.out.2.2.read H7.out.2.2.wss.rws).mono ?_); rintro e w8 ⟨rfl, ht⟩; have H8 := Lib.hid (H7.out.1.tu.trans ht); clear ht) | (go_at_call 17; (with_reducible refine (CV.out _).mono ?_); rintro e w9 ⟨rfl, ht⟩; have H9 := Lib.hid (H8.out.trans ht); clear ht) | (go_at_call 9; (with_reducible refine (CW.out _).mono ?_); rintro e w10 ⟨rfl, ht⟩; have H10 := Lib.hid (H9.out.trans ht); clear ht))
          go_ret
          exact ⟨rfl, H10.out.bel'⟩
end Go.Proofs.Ythopiamiipmobaa
