/-
  HistoryPlays' walk.
-/
import Derived.Test.YthopiamiipmobaaPlaysA
import Derived.Deep.MidRow
import Derived.Below
namespace Go.Proofs.Ythopiamiipmobaa
open Go.RowKit Go.Lib
set_option linter.unusedVariables false
set_option linter.unusedSimpArgs false

section
variable {w wr : World} {hb : Nat} {L : List Ev} {qs : List (List Wr)} {B : Option Addr} {c : Nat} {lw : List Ev} {qw : List (List Wr)} {E : Nat → Prop} {g : Nat} {x : Ev}
theorem cputs_at9 {c0 c1 c2 c3 c4 c5 c6 c7 c8 c9 c10 c11 c12 v0 v1 v2 v3 : Value} : cputs #[c0, c1, c2, c3, c4, c5, c6, c7, c8, c9, c10, c11, c12] 9 [v0, v1, v2, v3] = #[c0, c1, c2, c3, c4, c5, c6, c7, c8, v0, v1, v2, v3] := by simp [cputs]
theorem cputs_at2 {c0 c1 c2 c3 c4 c5 c6 c7 c8 c9 c10 c11 c12 v0 v1 v2 v3 v4 v5 v6 : Value} : cputs #[c0, c1, c2, c3, c4, c5, c6, c7, c8, c9, c10, c11, c12] 2 [v0, v1, v2, v3, v4, v5, v6] = #[c0, c1, v0, v1, v2, v3, v4, v5, v6, c9, c10, c11, c12] := by simp [cputs]
theorem Pb.setAns (h : Pb w wr hb L qs B c lw qw E g x) (a : Ans) : Pb w (wr.setCells g 9 a.cs) hb L qs B c lw qw E g ⟨x.kind, x.id, x.op, a⟩ := by
  rw [setCells_puts]
  exact h.set (turn_puts g a.cs 9 wr) (by have := At.puts a.cs 9 h.b; rwa [show cputs x.cs.toArray 9 a.cs = (Ev.cs ⟨x.kind, x.id, x.op, a⟩).toArray from cputs_at9] at this)
theorem Pb.setOp (h : Pb w wr hb L qs B c lw qw E g x) (o : Opx) : Pb w (wr.setCells g 2 o.cs) hb L qs B c lw qw E g ⟨x.kind, x.id, o, x.an⟩ := by
  rw [setCells_puts]
  exact h.set (turn_puts g o.cs 2 wr) (by have := At.puts o.cs 2 h.b; rwa [show cputs x.cs.toArray 2 o.cs = (Ev.cs ⟨x.kind, x.id, o, x.an⟩).toArray from cputs_at2] at this)
theorem Pb.there (h : Pb w wr hb L qs B c lw qw E g x) (i n : Nat) (hi : i + n ≤ 13) : wr.there g i n := fun j hj => by
  rw [h.b.cell]
  have hs : x.cs.toArray.size = 13 := rfl
  exact ⟨by rw [Array.getElem?_eq_getElem (by rw [hs]; omega)]; rfl, h.b.thawed (i + j)⟩
theorem Pb.fits15 (h : Pb w wr hb L qs B c lw qw E g x) {L0 : List Ev} (hr : Right L0) (hp : pl lw = L0) (hl : lw.length ≤ 100000) (y : Ev) :
    Calls Try.prog 15 #[.slice B lw.length c, y.val] wr fun r w' => r = .returned (.bool (fits L0 y)) ∧ Turn No wr w' := by
  have := reffits_any lw (right_of_pl _ lw rfl (by rw [hp]; exact hr)) B c y hl wr (row_of_own h.pw.row)
  rw [← hp, fits_pl]
  exact this
end

theorem Turn.bel2 {w w' : World} (h : Turn No w w') : Below w.heap.size w w' := h.below (Nat.le_refl _) fun _ _ h => h
theorem row_of_own2 {w : World} {base n : Nat} {A : Option Addr} {cap : Nat} {l : List Ev} (e : l.length = n) (h : w.ownsRow base 34 13 (.slice A l.length cap) l.length (ecs l)) : Row w A (ecs l) := row_of_own h
theorem stA_pl (l : List Ev) (id : Int) : stA (pl l) id = stA l id := by
  have e : firstAt 2 id (pl l) = firstAt 2 id l := by
    unfold firstAt pl
    rw [List.findIdx?_map]
    rfl
  unfold stA
  rw [e]
  cases firstAt 2 id l with
  | none => rfl
  | some n =>
    show ((pl l)[n]?.map (·.an)).getD ans00 = (l[n]?.map (·.an)).getD ans00
    unfold pl
    rw [List.getElem?_map]
    cases l[n]? <;> rfl
theorem stA_fit {w : World} {l : List Ev} {ps : List (List Wr)} (h : Rws w l ps) (id : Int) : (stA l id).fit := by
  unfold stA
  cases hf : firstAt 2 id l with
  | none => exact ans00_fit
  | some n =>
    obtain ⟨_, e, he, _⟩ := firstAt_get hf
    obtain ⟨ws, _, _, hfit⟩ := h.at_ he
    show ((l[n]?.map (·.an)).getD ans00).fit
    rw [he]
    exact hfit.an'
set_option maxHeartbeats 16000000 in
set_option maxRecDepth 100000 in
theorem plays_law (A : Option Addr) (len1 cap : Nat) (l : List Ev) (ps : List (List Wr)) (w : World) (h : Inp w A len1 cap l ps) :
    Calls Try.prog 3 #[.slice A len1 cap] w fun r w' => r = .returned (.bool true) ∧ Below w.heap.size w w' := by
  have hlen := h.hlen
  subst hlen
  have CG := Lib.hid (great_any l _ cap w h.row h.hmax h.wlen)
  have CW := Lib.hid wakes_any
  have HI := Lib.hid h
  clear h
  go_enter Try.func3, Try.ntmps3
  go_upto_if 10 with (go_at_call 8; refine CG.out.mono ?_; rintro e w1 ⟨rfl, hg⟩; rcases hg with rfl | ⟨rfl, hg⟩)
  · go_wp2_with (go_at_call 9; refine (CW.out _).mono ?_; rintro e w2 ⟨rfl, ht⟩; have HT := Lib.hid ht; clear ht)
    go_ret
    exact ⟨rfl, HT.out.bel2⟩
  have HG := Lib.hid (And.intro hg.1 (HI.out.rws fun e he => by have := hg.2 e he; unfold few at this; omega))
  clear hg CG
  have CN := Lib.hid (Ow.start w1)
  go_upto_region 4 with (go_at_call 10; refine CN.out.mono ?_; rintro e w2 ⟨rfl, ho⟩; have HO := Lib.hid ho; clear ho)
  clear CN
  obtain ⟨hb, hhb⟩ : ∃ hb, w1.heap.size = hb := ⟨_, rfl⟩
  rw [hhb] at HO ⊢
  clear hhb
  go_wp2_with fail
  go_loopw [4, 5] (fun s i wr => ∃ (kk : Nat) (L : List Ev) (qs : List (List Wr)) (B : Option Addr) (c : Nat) (lw : List Ev) (E : Nat → Prop), kk ≤ l.length ∧ i = .int .i64 (kk : Int) ∧ s = .slice B lw.length c ∧ Hid (L.length ≤ kk ∧ pl lw = L ∧ Pw w1 wr hb L qs B c lw qs E)) (fun _ i _ => l.length - (RowKit.intOf i).toNat)
  case atStart => exact ⟨0, [], [], none, 0, [], _, Nat.zero_le _, rfl, rfl, Lib.hid ⟨Nat.zero_le _, rfl, Pw.start HO.out⟩⟩
  case round =>
    obtain ⟨kk, L, qs, B, c, lw, E, hk, rfl, rfl, HP⟩ := hrel
    clear HO
    have hkl : Hid (l.length ≤ 200) := Lib.hid HG.out.1
    by_cases hlt : kk < l.length
    · replace hkl : Hid (kk < 200 ∧ l.length ≤ 200) := Lib.hid ⟨by have := HG.out.1; omega, HG.out.1⟩
      obtain ⟨e, he⟩ : ∃ e, l[kk]? = some e := ⟨l[kk], List.getElem?_eq_getElem hlt⟩
      obtain ⟨b, off, hA, _, hx⟩ := (HI.out.row.turn HP.out.2.2.tu fun _ _ _ h => h).range he
      obtain ⟨ws, hws, hrw, hfit⟩ := HG.out.2.at_ he
      obtain ⟨kind, id, ⟨ok, k, v, o, had, aft, A0, len, cap0⟩, ⟨code, found, ak, av⟩⟩ := e
      have HF : Hid (In64 id ∧ Opx.fit ⟨ok, k, v, o, had, aft, A0, len, cap0⟩ ws ∧ Ans.fit ⟨code, found, ak, av⟩ ∧ Row w1 A0 (wcs ws)) := Lib.hid ⟨hfit.id, hfit.op', hfit.an', hrw⟩
      have hr1 : wr.rangeAt b (off + kk * 13) [.int .u8 kind, .int .i64 id, .int .u8 ok, .string k, .string v, .string o, .bool had, .bool aft, .slice A0 len cap0, .int .i64 code, .bool found, .string ak, .string av] := hx
      have HN := Lib.hid (HP.out.2.2.box ⟨kind, id, ⟨ok, k, v, o, had, aft, A0, len, cap0⟩, ⟨code, found, ak, av⟩⟩)
      change Hid (Pb w1 (wr.alloc (.cells #[.int .u8 kind, .int .i64 id, .int .u8 ok, .string k, .string v, .string o, .bool had, .bool aft, .slice A0 len cap0, .int .i64 code, .bool found, .string ak, .string av] 34)) hb L qs B c lw qs (fun i => E i ∨ i = wr.heap.size) wr.heap.size ⟨kind, id, ⟨ok, k, v, o, had, aft, A0, len, cap0⟩, ⟨code, found, ak, av⟩⟩) at HN
      subst hA
      clear he hws hrw hfit hx
      go_upto_region 9 with (refine wpList_load_mid rfl 34 _ rfl b (off + kk * 13) rfl [.int .u8 kind, .int .i64 id, .int .u8 ok, .string k, .string v, .string o, .bool had, .bool aft, .slice A0 len cap0, .int .i64 code, .bool found, .string ak, .string av] _ hr1 Try.underlying34 rfl inf34 ?_)
      clear hr1
      obtain ⟨E2, hE2⟩ : ∃ E2, (fun i => E i ∨ i = wr.heap.size) = E2 := ⟨_, rfl⟩
      rw [hE2] at HN
      clear hE2
      generalize wr.alloc (.cells #[.int .u8 kind, .int .i64 id, .int .u8 ok, .string k, .string v, .string o, .bool had, .bool aft, .slice A0 len cap0, .int .i64 code, .bool found, .string ak, .string av] 34) = w6 at HN ⊢
      generalize wr.heap.size = g at HN ⊢
      by_cases hkind : kind = 1
      · subst hkind
        have x0 : w6.cell? ⟨g, 0, none⟩ = some (.int .u8 1) := HN.out.b.cell 0
        have x1 : w6.cell? ⟨g, 1, none⟩ = some (.int .i64 id) := HN.out.b.cell 1
        have x2 : w6.cell? ⟨g, 2, none⟩ = some (.int .u8 ok) := HN.out.b.cell 2
        have x3 : w6.cell? ⟨g, 3, none⟩ = some (.string k) := HN.out.b.cell 3
        have x4 : w6.cell? ⟨g, 4, none⟩ = some (.string v) := HN.out.b.cell 4
        have x5 : w6.cell? ⟨g, 5, none⟩ = some (.string o) := HN.out.b.cell 5
        have x6 : w6.cell? ⟨g, 6, none⟩ = some (.bool had) := HN.out.b.cell 6
        have x7 : w6.cell? ⟨g, 7, none⟩ = some (.bool aft) := HN.out.b.cell 7
        have x8 : w6.cell? ⟨g, 8, none⟩ = some (.slice A0 len cap0) := HN.out.b.cell 8
        have x9 : w6.cell? ⟨g, 9, none⟩ = some (.int .i64 code) := HN.out.b.cell 9
        have x10 : w6.cell? ⟨g, 10, none⟩ = some (.bool found) := HN.out.b.cell 10
        have x11 : w6.cell? ⟨g, 11, none⟩ = some (.string ak) := HN.out.b.cell 11
        have x12 : w6.cell? ⟨g, 12, none⟩ = some (.string av) := HN.out.b.cell 12
        have C1 : Hid (Calls Try.prog 11 #[.pointer (some ⟨hb, 0, none⟩), .int .i64 id, .agg #[.int .u8 ok, .string k, .string v, .string o, .bool had, .bool aft, .slice A0 len cap0]] w6 fun r w' => ∃ d, r = .returned (.int .i64 d) ∧ PutB w1 w' hb L qs B c lw qs E2 g ⟨1, id, ⟨ok, k, v, o, had, aft, A0, len, cap0⟩, ⟨code, found, ak, av⟩⟩ ⟨1, id, ⟨ok, k, v, o, had, aft, A0, len, cap0⟩, ans00⟩ ws d) := Lib.hid (HN.out.begin (by have := HP.out.1; have := hkl.out; omega) id HF.out.1 ⟨ok, k, v, o, had, aft, A0, len, cap0⟩ ws HF.out.2.1 HF.out.2.2.2)
        go_upto_region 13 with (go_at_call 11; (with_reducible refine C1.out.mono ?_); rintro e w7 ⟨d, rfl, hp0⟩; have HPut := Lib.hid hp0; clear hp0)
        clear C1 x0 x1 x2 x3 x4 x5 x6 x7 x8 x9 x10 x11 x12
        rcases HPut.out with ⟨hff, rfl, hpb⟩ | ⟨hff, rfl, hpb⟩
        · have hth := hpb.there 9 4 (by omega)
          have hone := all_one (vs := [.int .i64 0, .bool false, .string ⟨#[]⟩, .string ⟨#[]⟩]) (one_an ans00)
          have HY : Hid (Pb w1 (w7.setCells g 9 [.int .i64 0, .bool false, .string ⟨#[]⟩, .string ⟨#[]⟩]) hb L qs B c lw qs E2 g ⟨1, id, ⟨ok, k, v, o, had, aft, A0, len, cap0⟩, ans00⟩) := Lib.hid (hpb.setAns ans00)
          clear hpb HPut
          go_upto_region 21 with (refine wpList_store_mid rfl 32 _ _ rfl g 9 #[.int .i64 0, .bool false, .string ⟨#[]⟩, .string ⟨#[]⟩] rfl rfl hth inf32 hone ?_)
          generalize w7.setCells g 9 [.int .i64 0, .bool false, .string ⟨#[]⟩, .string ⟨#[]⟩] = w8 at HY ⊢
          clear hth hone
          have hrg := HY.out.b.range
          have CF : Hid (Calls Try.prog 15 #[.slice B lw.length c, .agg #[.int .u8 1, .int .i64 id, .int .u8 ok, .string k, .string v, .string o, .bool had, .bool aft, .slice A0 len cap0, .int .i64 0, .bool false, .string ⟨#[]⟩, .string ⟨#[]⟩]] w8 fun r w' => r = .returned (.bool false) ∧ Turn No w8 w') := Lib.hid (by
            have h15 := HY.out.fits15 HP.out.2.2.hs.right HP.out.2.1 (by have := HP.out.1; have := hkl.out; have := congrArg List.length HP.out.2.1; rw [pl_length] at this; omega) ⟨1, id, ⟨ok, k, v, o, had, aft, A0, len, cap0⟩, ans00⟩
            rw [hff] at h15
            exact h15)
          clear hff
          have hlim := hkl.out
          go_wp2_with (first | (refine wpList_load_mid rfl 34 _ rfl g 0 rfl [.int .u8 1, .int .i64 id, .int .u8 ok, .string k, .string v, .string o, .bool had, .bool aft, .slice A0 len cap0, .int .i64 0, .bool false, .string ⟨#[]⟩, .string ⟨#[]⟩] _ hrg Try.underlying34 rfl inf34 ?_) | (go_at_call 15; (with_reducible refine CF.out.mono ?_); rintro e w20 ⟨rfl, ht⟩; have H20 := Lib.hid (HY.out.no ht); clear ht))
          exact ⟨⟨kk + 1, L, qs, B, c, lw, _, by omega, by go_num, rfl, Lib.hid ⟨by have := HP.out.1; omega, HP.out.2.1, H20.out.pw⟩⟩, by simp [RowKit.intOf]; omega⟩
        · have hth := hpb.there 9 4 (by omega)
          have hone := all_one (vs := [.int .i64 0, .bool false, .string ⟨#[]⟩, .string ⟨#[]⟩]) (one_an ans00)
          have HY : Hid (Pb w1 (w7.setCells g 9 [.int .i64 0, .bool false, .string ⟨#[]⟩, .string ⟨#[]⟩]) hb (L ++ [Ev.pure ⟨1, id, ⟨ok, k, v, o, had, aft, A0, len, cap0⟩, ans00⟩]) (qs ++ [ws]) B c lw qs E2 g ⟨1, id, ⟨ok, k, v, o, had, aft, A0, len, cap0⟩, ans00⟩) := Lib.hid (hpb.setAns ans00)
          clear hpb HPut
          go_upto_region 21 with (refine wpList_store_mid rfl 32 _ _ rfl g 9 #[.int .i64 0, .bool false, .string ⟨#[]⟩, .string ⟨#[]⟩] rfl rfl hth inf32 hone ?_)
          generalize w7.setCells g 9 [.int .i64 0, .bool false, .string ⟨#[]⟩, .string ⟨#[]⟩] = w8 at HY ⊢
          clear hth hone
          have hrg := HY.out.b.range
          have CF : Hid (Calls Try.prog 15 #[.slice B lw.length c, .agg #[.int .u8 1, .int .i64 id, .int .u8 ok, .string k, .string v, .string o, .bool had, .bool aft, .slice A0 len cap0, .int .i64 0, .bool false, .string ⟨#[]⟩, .string ⟨#[]⟩]] w8 fun r w' => r = .returned (.bool true) ∧ Turn No w8 w') := Lib.hid (by
            have h15 := HY.out.fits15 HP.out.2.2.hs.right HP.out.2.1 (by have := HP.out.1; have := hkl.out; have := congrArg List.length HP.out.2.1; rw [pl_length] at this; omega) ⟨1, id, ⟨ok, k, v, o, had, aft, A0, len, cap0⟩, ans00⟩
            rw [hff] at h15
            exact h15)
          clear hff
          go_upto_region 25 with (first | (refine wpList_load_mid rfl 34 _ rfl g 0 rfl [.int .u8 1, .int .i64 id, .int .u8 ok, .string k, .string v, .string o, .bool had, .bool aft, .slice A0 len cap0, .int .i64 0, .bool false, .string ⟨#[]⟩, .string ⟨#[]⟩] _ hrg Try.underlying34 rfl inf34 ?_) | (go_at_call 15; (with_reducible refine CF.out.mono ?_); rintro e w20 ⟨rfl, ht⟩; have H20 := Lib.hid (HY.out.no ht); clear ht))
          obtain ⟨B2, c2, w21, q, hpw⟩ := H20.out.append (by have := HP.out.1; have := hkl.out; have := congrArg List.length HP.out.2.1; rw [pl_length] at this; omega) HF.out.2.2.2 (.mk' HF.out.1 HF.out.2.1 ans00_fit)
          have HW := Lib.hid hpw
          clear hpw
          have hrg2 := H20.out.b.range
          clear hrg CF
          have hlim := hkl.out
          go_wp2_with (first | (refine wpList_load_mid rfl 34 _ rfl g 0 rfl [.int .u8 1, .int .i64 id, .int .u8 ok, .string k, .string v, .string o, .bool had, .bool aft, .slice A0 len cap0, .int .i64 0, .bool false, .string ⟨#[]⟩, .string ⟨#[]⟩] _ hrg2 Try.underlying34 rfl inf34 ?_) | (at_builtin; refine wpList_append_run rfl _ _ 22 rfl _ _ _ rfl rfl q ?_))
          refine ⟨⟨kk + 1, _, _, B2, c2, lw ++ [⟨1, id, ⟨ok, k, v, o, had, aft, A0, len, cap0⟩, ans00⟩], _, by omega, by go_num, ?_, Lib.hid ⟨?_, ?_, HW.out⟩⟩, by simp [RowKit.intOf]; omega⟩
          · rw [List.length_append]; rfl
          · have := HP.out.1; simp; omega
          · rw [pl_snoc, HP.out.2.1]; try rfl
      have q1 : (kind == 1) = false := by simpa using hkind
      by_cases hkind : kind = 2
      · subst hkind
        have x0 : w6.cell? ⟨g, 0, none⟩ = some (.int .u8 2) := HN.out.b.cell 0
        have x1 : w6.cell? ⟨g, 1, none⟩ = some (.int .i64 id) := HN.out.b.cell 1
        have x2 : w6.cell? ⟨g, 2, none⟩ = some (.int .u8 ok) := HN.out.b.cell 2
        have x3 : w6.cell? ⟨g, 3, none⟩ = some (.string k) := HN.out.b.cell 3
        have x4 : w6.cell? ⟨g, 4, none⟩ = some (.string v) := HN.out.b.cell 4
        have x5 : w6.cell? ⟨g, 5, none⟩ = some (.string o) := HN.out.b.cell 5
        have x6 : w6.cell? ⟨g, 6, none⟩ = some (.bool had) := HN.out.b.cell 6
        have x7 : w6.cell? ⟨g, 7, none⟩ = some (.bool aft) := HN.out.b.cell 7
        have x8 : w6.cell? ⟨g, 8, none⟩ = some (.slice A0 len cap0) := HN.out.b.cell 8
        have x9 : w6.cell? ⟨g, 9, none⟩ = some (.int .i64 code) := HN.out.b.cell 9
        have x10 : w6.cell? ⟨g, 10, none⟩ = some (.bool found) := HN.out.b.cell 10
        have x11 : w6.cell? ⟨g, 11, none⟩ = some (.string ak) := HN.out.b.cell 11
        have x12 : w6.cell? ⟨g, 12, none⟩ = some (.string av) := HN.out.b.cell 12
        have C1 : Hid (Calls Try.prog 12 #[.pointer (some ⟨hb, 0, none⟩), .int .i64 id, .agg #[.int .i64 code, .bool found, .string ak, .string av]] w6 fun r w' => ∃ d, r = .returned (.int .i64 d) ∧ PutB w1 w' hb L qs B c lw qs E2 g ⟨2, id, ⟨ok, k, v, o, had, aft, A0, len, cap0⟩, ⟨code, found, ak, av⟩⟩ ⟨2, id, op00, ⟨code, found, ak, av⟩⟩ [] d) := Lib.hid (HN.out.mark (by have := HP.out.1; have := hkl.out; omega) id HF.out.1 ⟨code, found, ak, av⟩ HF.out.2.2.1)
        go_upto_region 16 with (go_at_call 12; (with_reducible refine C1.out.mono ?_); rintro e w7 ⟨d, rfl, hp0⟩; have HPut := Lib.hid hp0; clear hp0)
        clear C1 x0 x1 x2 x3 x4 x5 x6 x7 x8 x9 x10 x11 x12
        rcases HPut.out with ⟨hff, rfl, hpb⟩ | ⟨hff, rfl, hpb⟩
        · have hth := hpb.there 2 7 (by omega)
          have hone := all_one (vs := [.int .u8 0, .string ⟨#[]⟩, .string ⟨#[]⟩, .string ⟨#[]⟩, .bool false, .bool false, .slice none 0 0]) (one_op op00)
          have HY : Hid (Pb w1 (w7.setCells g 2 [.int .u8 0, .string ⟨#[]⟩, .string ⟨#[]⟩, .string ⟨#[]⟩, .bool false, .bool false, .slice none 0 0]) hb L qs B c lw qs E2 g ⟨2, id, op00, ⟨code, found, ak, av⟩⟩) := Lib.hid (hpb.setOp op00)
          clear hpb HPut
          go_upto_region 21 with (refine wpList_store_mid rfl 29 _ _ rfl g 2 #[.int .u8 0, .string ⟨#[]⟩, .string ⟨#[]⟩, .string ⟨#[]⟩, .bool false, .bool false, .slice none 0 0] rfl rfl hth inf29 hone ?_)
          generalize w7.setCells g 2 [.int .u8 0, .string ⟨#[]⟩, .string ⟨#[]⟩, .string ⟨#[]⟩, .bool false, .bool false, .slice none 0 0] = w8 at HY ⊢
          clear hth hone
          have hrg := HY.out.b.range
          have CF : Hid (Calls Try.prog 15 #[.slice B lw.length c, .agg #[.int .u8 2, .int .i64 id, .int .u8 0, .string ⟨#[]⟩, .string ⟨#[]⟩, .string ⟨#[]⟩, .bool false, .bool false, .slice none 0 0, .int .i64 code, .bool found, .string ak, .string av]] w8 fun r w' => r = .returned (.bool false) ∧ Turn No w8 w') := Lib.hid (by
            have h15 := HY.out.fits15 HP.out.2.2.hs.right HP.out.2.1 (by have := HP.out.1; have := hkl.out; have := congrArg List.length HP.out.2.1; rw [pl_length] at this; omega) ⟨2, id, op00, ⟨code, found, ak, av⟩⟩
            rw [hff] at h15
            exact h15)
          clear hff
          have hlim := hkl.out
          go_wp2_with (first | (refine wpList_load_mid rfl 34 _ rfl g 0 rfl [.int .u8 2, .int .i64 id, .int .u8 0, .string ⟨#[]⟩, .string ⟨#[]⟩, .string ⟨#[]⟩, .bool false, .bool false, .slice none 0 0, .int .i64 code, .bool found, .string ak, .string av] _ hrg Try.underlying34 rfl inf34 ?_) | (go_at_call 15; (with_reducible refine CF.out.mono ?_); rintro e w20 ⟨rfl, ht⟩; have H20 := Lib.hid (HY.out.no ht); clear ht))
          exact ⟨⟨kk + 1, L, qs, B, c, lw, _, by omega, by go_num, rfl, Lib.hid ⟨by have := HP.out.1; omega, HP.out.2.1, H20.out.pw⟩⟩, by simp [RowKit.intOf]; omega⟩
        · have hth := hpb.there 2 7 (by omega)
          have hone := all_one (vs := [.int .u8 0, .string ⟨#[]⟩, .string ⟨#[]⟩, .string ⟨#[]⟩, .bool false, .bool false, .slice none 0 0]) (one_op op00)
          have HY : Hid (Pb w1 (w7.setCells g 2 [.int .u8 0, .string ⟨#[]⟩, .string ⟨#[]⟩, .string ⟨#[]⟩, .bool false, .bool false, .slice none 0 0]) hb (L ++ [Ev.pure ⟨2, id, op00, ⟨code, found, ak, av⟩⟩]) (qs ++ [[]]) B c lw qs E2 g ⟨2, id, op00, ⟨code, found, ak, av⟩⟩) := Lib.hid (hpb.setOp op00)
          clear hpb HPut
          go_upto_region 21 with (refine wpList_store_mid rfl 29 _ _ rfl g 2 #[.int .u8 0, .string ⟨#[]⟩, .string ⟨#[]⟩, .string ⟨#[]⟩, .bool false, .bool false, .slice none 0 0] rfl rfl hth inf29 hone ?_)
          generalize w7.setCells g 2 [.int .u8 0, .string ⟨#[]⟩, .string ⟨#[]⟩, .string ⟨#[]⟩, .bool false, .bool false, .slice none 0 0] = w8 at HY ⊢
          clear hth hone
          have hrg := HY.out.b.range
          have CF : Hid (Calls Try.prog 15 #[.slice B lw.length c, .agg #[.int .u8 2, .int .i64 id, .int .u8 0, .string ⟨#[]⟩, .string ⟨#[]⟩, .string ⟨#[]⟩, .bool false, .bool false, .slice none 0 0, .int .i64 code, .bool found, .string ak, .string av]] w8 fun r w' => r = .returned (.bool true) ∧ Turn No w8 w') := Lib.hid (by
            have h15 := HY.out.fits15 HP.out.2.2.hs.right HP.out.2.1 (by have := HP.out.1; have := hkl.out; have := congrArg List.length HP.out.2.1; rw [pl_length] at this; omega) ⟨2, id, op00, ⟨code, found, ak, av⟩⟩
            rw [hff] at h15
            exact h15)
          clear hff
          go_upto_region 25 with (first | (refine wpList_load_mid rfl 34 _ rfl g 0 rfl [.int .u8 2, .int .i64 id, .int .u8 0, .string ⟨#[]⟩, .string ⟨#[]⟩, .string ⟨#[]⟩, .bool false, .bool false, .slice none 0 0, .int .i64 code, .bool found, .string ak, .string av] _ hrg Try.underlying34 rfl inf34 ?_) | (go_at_call 15; (with_reducible refine CF.out.mono ?_); rintro e w20 ⟨rfl, ht⟩; have H20 := Lib.hid (HY.out.no ht); clear ht))
          obtain ⟨B2, c2, w21, q, hpw⟩ := H20.out.append (by have := HP.out.1; have := hkl.out; have := congrArg List.length HP.out.2.1; rw [pl_length] at this; omega) (Row.nil _ _) (.mk' HF.out.1 op00_fit HF.out.2.2.1)
          have HW := Lib.hid hpw
          clear hpw
          have hrg2 := H20.out.b.range
          clear hrg CF
          have hlim := hkl.out
          go_wp2_with (first | (refine wpList_load_mid rfl 34 _ rfl g 0 rfl [.int .u8 2, .int .i64 id, .int .u8 0, .string ⟨#[]⟩, .string ⟨#[]⟩, .string ⟨#[]⟩, .bool false, .bool false, .slice none 0 0, .int .i64 code, .bool found, .string ak, .string av] _ hrg2 Try.underlying34 rfl inf34 ?_) | (at_builtin; refine wpList_append_run rfl _ _ 22 rfl _ _ _ rfl rfl q ?_))
          refine ⟨⟨kk + 1, _, _, B2, c2, lw ++ [⟨2, id, op00, ⟨code, found, ak, av⟩⟩], _, by omega, by go_num, ?_, Lib.hid ⟨?_, ?_, HW.out⟩⟩, by simp [RowKit.intOf]; omega⟩
          · rw [List.length_append]; rfl
          · have := HP.out.1; simp; omega
          · rw [pl_snoc, HP.out.2.1]; try rfl
      have q2 : (kind == 2) = false := by simpa using hkind
      by_cases hkind : kind = 3
      · subst hkind
        have x0 : w6.cell? ⟨g, 0, none⟩ = some (.int .u8 3) := HN.out.b.cell 0
        have x1 : w6.cell? ⟨g, 1, none⟩ = some (.int .i64 id) := HN.out.b.cell 1
        have x2 : w6.cell? ⟨g, 2, none⟩ = some (.int .u8 ok) := HN.out.b.cell 2
        have x3 : w6.cell? ⟨g, 3, none⟩ = some (.string k) := HN.out.b.cell 3
        have x4 : w6.cell? ⟨g, 4, none⟩ = some (.string v) := HN.out.b.cell 4
        have x5 : w6.cell? ⟨g, 5, none⟩ = some (.string o) := HN.out.b.cell 5
        have x6 : w6.cell? ⟨g, 6, none⟩ = some (.bool had) := HN.out.b.cell 6
        have x7 : w6.cell? ⟨g, 7, none⟩ = some (.bool aft) := HN.out.b.cell 7
        have x8 : w6.cell? ⟨g, 8, none⟩ = some (.slice A0 len cap0) := HN.out.b.cell 8
        have x9 : w6.cell? ⟨g, 9, none⟩ = some (.int .i64 code) := HN.out.b.cell 9
        have x10 : w6.cell? ⟨g, 10, none⟩ = some (.bool found) := HN.out.b.cell 10
        have x11 : w6.cell? ⟨g, 11, none⟩ = some (.string ak) := HN.out.b.cell 11
        have x12 : w6.cell? ⟨g, 12, none⟩ = some (.string av) := HN.out.b.cell 12
        have C1 : Hid (Calls Try.prog 13 #[.pointer (some ⟨hb, 0, none⟩), .int .i64 id] w6 fun r w' => ∃ d, r = .returned (.int .i64 d) ∧ PutB w1 w' hb L qs B c lw qs E2 g ⟨3, id, ⟨ok, k, v, o, had, aft, A0, len, cap0⟩, ⟨code, found, ak, av⟩⟩ ⟨3, id, op00, (kn L id).an⟩ [] d) := Lib.hid (HN.out.ended (by have := HP.out.1; have := hkl.out; omega) id HF.out.1)
        obtain ⟨a2, ha2⟩ : ∃ a, stA lw id = a := ⟨_, rfl⟩
        have hes := end_same HP.out.2.2.hs.right id
        have hsl : stA L id = a2 := by rw [← ha2, ← HP.out.2.1]; exact stA_pl lw id
        rw [hsl] at hes
        have haf : a2.fit := by rw [← ha2]; exact stA_fit HP.out.2.2.rws id
        obtain ⟨code2, found2, ak2, av2⟩ := a2
        have CA : Hid (∀ W, Pb w1 W hb L qs B c lw qs E2 g ⟨3, id, op00, ⟨code, found, ak, av⟩⟩ ∨ Pb w1 W hb (L ++ [Ev.pure ⟨3, id, op00, (kn L id).an⟩]) (qs ++ [[]]) B c lw qs E2 g ⟨3, id, op00, ⟨code, found, ak, av⟩⟩ → Calls Try.prog 14 #[.slice B lw.length c, .int .i64 id] W fun r w' => r = .returned (.agg #[.int .i64 code2, .bool found2, .string ak2, .string av2]) ∧ Turn No W w') := Lib.hid fun W ho => by
          have := refans_any id lw B c W (ho.elim (fun h => row_of_own h.pw.row) fun h => row_of_own h.pw.row) (by have := HP.out.1; have := hkl.out; have := congrArg List.length HP.out.2.1; rw [pl_length] at this; omega)
          rwa [ha2] at this
        have HES := Lib.hid (And.intro hes haf)
        clear hes hsl ha2 haf
        go_upto_region 19 with (go_at_call 13; (with_reducible refine C1.out.mono ?_); rintro e w7 ⟨d, rfl, hp0⟩; have HPut := Lib.hid hp0; clear hp0)
        clear C1 x0 x1 x2 x3 x4 x5 x6 x7 x8 x9 x10 x11 x12
        rcases HPut.out with ⟨hff, rfl, hpb⟩ | ⟨hff, rfl, hpb⟩
        · have hth := hpb.there 2 7 (by omega)
          have hone := all_one (vs := [.int .u8 0, .string ⟨#[]⟩, .string ⟨#[]⟩, .string ⟨#[]⟩, .bool false, .bool false, .slice none 0 0]) (one_op op00)
          have HY : Hid (Pb w1 (w7.setCells g 2 [.int .u8 0, .string ⟨#[]⟩, .string ⟨#[]⟩, .string ⟨#[]⟩, .bool false, .bool false, .slice none 0 0]) hb L qs B c lw qs E2 g ⟨3, id, op00, ⟨code, found, ak, av⟩⟩) := Lib.hid (hpb.setOp op00)
          have hff : fits L ⟨3, id, op00, ⟨code2, found2, ak2, av2⟩⟩ = false := by rw [HES.out.1.1]; exact hff
          clear hpb HPut
          go_upto_region 20 with (refine wpList_store_mid rfl 29 _ _ rfl g 2 #[.int .u8 0, .string ⟨#[]⟩, .string ⟨#[]⟩, .string ⟨#[]⟩, .bool false, .bool false, .slice none 0 0] rfl rfl hth inf29 hone ?_)
          generalize w7.setCells g 2 [.int .u8 0, .string ⟨#[]⟩, .string ⟨#[]⟩, .string ⟨#[]⟩, .bool false, .bool false, .slice none 0 0] = w8 at HY ⊢
          clear hth hone
          have y1 : w8.cell? ⟨g, 1, none⟩ = some (.int .i64 id) := HY.out.b.cell 1
          have hone := all_one (vs := [.int .i64 code2, .bool found2, .string ak2, .string av2]) (one_an ⟨code2, found2, ak2, av2⟩)
          go_upto_region 21 with (first | (refine wpList_store_mid rfl 32 _ _ rfl g 9 #[.int .i64 code2, .bool found2, .string ak2, .string av2] rfl rfl (H9.out.there 9 4 (by omega)) inf32 hone ?_) | (go_at_call 14; (with_reducible refine (CA.out _ (.inl HY.out)).mono ?_); rintro e w9 ⟨rfl, ht⟩; have H9 := Lib.hid (HY.out.no ht); clear ht))
          have HZ : Hid (Pb w1 (w9.setCells g 9 [.int .i64 code2, .bool found2, .string ak2, .string av2]) hb L qs B c lw qs E2 g ⟨3, id, op00, ⟨code2, found2, ak2, av2⟩⟩) := Lib.hid (H9.out.setAns ⟨code2, found2, ak2, av2⟩)
          generalize w9.setCells g 9 [.int .i64 code2, .bool found2, .string ak2, .string av2] = w10 at HZ ⊢
          clear HY H9 hone y1 CA
          have hrg := HZ.out.b.range
          have CF : Hid (Calls Try.prog 15 #[.slice B lw.length c, .agg #[.int .u8 3, .int .i64 id, .int .u8 0, .string ⟨#[]⟩, .string ⟨#[]⟩, .string ⟨#[]⟩, .bool false, .bool false, .slice none 0 0, .int .i64 code2, .bool found2, .string ak2, .string av2]] w10 fun r w' => r = .returned (.bool false) ∧ Turn No w10 w') := Lib.hid (by
            have h15 := HZ.out.fits15 HP.out.2.2.hs.right HP.out.2.1 (by have := HP.out.1; have := hkl.out; have := congrArg List.length HP.out.2.1; rw [pl_length] at this; omega) ⟨3, id, op00, ⟨code2, found2, ak2, av2⟩⟩
            rw [hff] at h15
            exact h15)
          clear hff
          have hlim := hkl.out
          go_wp2_with (first | (refine wpList_load_mid rfl 34 _ rfl g 0 rfl [.int .u8 3, .int .i64 id, .int .u8 0, .string ⟨#[]⟩, .string ⟨#[]⟩, .string ⟨#[]⟩, .bool false, .bool false, .slice none 0 0, .int .i64 code2, .bool found2, .string ak2, .string av2] _ hrg Try.underlying34 rfl inf34 ?_) | (go_at_call 15; (with_reducible refine CF.out.mono ?_); rintro e w20 ⟨rfl, ht⟩; have H20 := Lib.hid (HZ.out.no ht); clear ht))
          exact ⟨⟨kk + 1, L, qs, B, c, lw, _, by omega, by go_num, rfl, Lib.hid ⟨by have := HP.out.1; omega, HP.out.2.1, H20.out.pw⟩⟩, by simp [RowKit.intOf]; omega⟩
        · have hth := hpb.there 2 7 (by omega)
          have hone := all_one (vs := [.int .u8 0, .string ⟨#[]⟩, .string ⟨#[]⟩, .string ⟨#[]⟩, .bool false, .bool false, .slice none 0 0]) (one_op op00)
          have HY : Hid (Pb w1 (w7.setCells g 2 [.int .u8 0, .string ⟨#[]⟩, .string ⟨#[]⟩, .string ⟨#[]⟩, .bool false, .bool false, .slice none 0 0]) hb (L ++ [Ev.pure ⟨3, id, op00, (kn L id).an⟩]) (qs ++ [[]]) B c lw qs E2 g ⟨3, id, op00, ⟨code, found, ak, av⟩⟩) := Lib.hid (hpb.setOp op00)
          have hen : (kn L id).an = ⟨code2, found2, ak2, av2⟩ := HES.out.1.2 hff
          have hff : fits L ⟨3, id, op00, ⟨code2, found2, ak2, av2⟩⟩ = true := by rw [HES.out.1.1]; exact hff
          clear hpb HPut
          go_upto_region 20 with (refine wpList_store_mid rfl 29 _ _ rfl g 2 #[.int .u8 0, .string ⟨#[]⟩, .string ⟨#[]⟩, .string ⟨#[]⟩, .bool false, .bool false, .slice none 0 0] rfl rfl hth inf29 hone ?_)
          generalize w7.setCells g 2 [.int .u8 0, .string ⟨#[]⟩, .string ⟨#[]⟩, .string ⟨#[]⟩, .bool false, .bool false, .slice none 0 0] = w8 at HY ⊢
          clear hth hone
          have y1 : w8.cell? ⟨g, 1, none⟩ = some (.int .i64 id) := HY.out.b.cell 1
          have hone := all_one (vs := [.int .i64 code2, .bool found2, .string ak2, .string av2]) (one_an ⟨code2, found2, ak2, av2⟩)
          go_upto_region 21 with (first | (refine wpList_store_mid rfl 32 _ _ rfl g 9 #[.int .i64 code2, .bool found2, .string ak2, .string av2] rfl rfl (H9.out.there 9 4 (by omega)) inf32 hone ?_) | (go_at_call 14; (with_reducible refine (CA.out _ (.inr HY.out)).mono ?_); rintro e w9 ⟨rfl, ht⟩; have H9 := Lib.hid (HY.out.no ht); clear ht))
          have HZ : Hid (Pb w1 (w9.setCells g 9 [.int .i64 code2, .bool found2, .string ak2, .string av2]) hb (L ++ [Ev.pure ⟨3, id, op00, (kn L id).an⟩]) (qs ++ [[]]) B c lw qs E2 g ⟨3, id, op00, ⟨code2, found2, ak2, av2⟩⟩) := Lib.hid (H9.out.setAns ⟨code2, found2, ak2, av2⟩)
          generalize w9.setCells g 9 [.int .i64 code2, .bool found2, .string ak2, .string av2] = w10 at HZ ⊢
          clear HY H9 hone y1 CA
          have hrg := HZ.out.b.range
          have CF : Hid (Calls Try.prog 15 #[.slice B lw.length c, .agg #[.int .u8 3, .int .i64 id, .int .u8 0, .string ⟨#[]⟩, .string ⟨#[]⟩, .string ⟨#[]⟩, .bool false, .bool false, .slice none 0 0, .int .i64 code2, .bool found2, .string ak2, .string av2]] w10 fun r w' => r = .returned (.bool true) ∧ Turn No w10 w') := Lib.hid (by
            have h15 := HZ.out.fits15 HP.out.2.2.hs.right HP.out.2.1 (by have := HP.out.1; have := hkl.out; have := congrArg List.length HP.out.2.1; rw [pl_length] at this; omega) ⟨3, id, op00, ⟨code2, found2, ak2, av2⟩⟩
            rw [hff] at h15
            exact h15)
          go_upto_region 25 with (first | (refine wpList_load_mid rfl 34 _ rfl g 0 rfl [.int .u8 3, .int .i64 id, .int .u8 0, .string ⟨#[]⟩, .string ⟨#[]⟩, .string ⟨#[]⟩, .bool false, .bool false, .slice none 0 0, .int .i64 code2, .bool found2, .string ak2, .string av2] _ hrg Try.underlying34 rfl inf34 ?_) | (go_at_call 15; (with_reducible refine CF.out.mono ?_); rintro e w20 ⟨rfl, ht⟩; have H20 := Lib.hid (HZ.out.no ht); clear ht))
          obtain ⟨B2, c2, w21, q, hpw⟩ := H20.out.append (by have := HP.out.1; have := hkl.out; have := congrArg List.length HP.out.2.1; rw [pl_length] at this; omega) (Row.nil _ _) (.mk' HF.out.1 op00_fit HES.out.2)
          have HW := Lib.hid hpw
          clear hpw
          have hrg2 := H20.out.b.range
          clear hrg CF
          have hlim := hkl.out
          go_wp2_with (first | (refine wpList_load_mid rfl 34 _ rfl g 0 rfl [.int .u8 3, .int .i64 id, .int .u8 0, .string ⟨#[]⟩, .string ⟨#[]⟩, .string ⟨#[]⟩, .bool false, .bool false, .slice none 0 0, .int .i64 code2, .bool found2, .string ak2, .string av2] _ hrg2 Try.underlying34 rfl inf34 ?_) | (at_builtin; refine wpList_append_run rfl _ _ 22 rfl _ _ _ rfl rfl q ?_))
          refine ⟨⟨kk + 1, _, _, B2, c2, lw ++ [⟨3, id, op00, ⟨code2, found2, ak2, av2⟩⟩], _, by omega, by go_num, ?_, Lib.hid ⟨?_, ?_, HW.out⟩⟩, by simp [RowKit.intOf]; omega⟩
          · rw [List.length_append]; rfl
          · have := HP.out.1; simp; omega
          · rw [pl_snoc, HP.out.2.1]; rw [hen]; try rfl
      have q3 : (kind == 3) = false := by simpa using hkind
      have x0 : w6.cell? ⟨g, 0, none⟩ = some (.int .u8 kind) := HN.out.b.cell 0
      have hlim := hkl.out
      go_wp2_with fail
      exact ⟨⟨kk + 1, L, qs, B, c, lw, E2, by omega, by go_num, rfl, Lib.hid ⟨by have := HP.out.1; omega, HP.out.2.1, HN.out.pw⟩⟩, by simp [RowKit.intOf]; omega⟩
    · obtain rfl : kk = l.length := by omega
      have hn := HP.out.1
      have C5 := Lib.hid (events_any HP.out.2.2.hs (by have := HG.out.1; omega))
      have CS : Hid (∀ W lc Bc cc, Pw w1 W hb L qs B c lw qs E → pl lc = L → Row W Bc (ecs lc) → Rws W lc qs → Calls Try.prog 16 #[.slice Bc L.length cc, .slice B lw.length c] W fun r w' => r = .returned (.bool true) ∧ Turn No W w') := Lib.hid fun W lc Bc cc ho hp hrow hrws => by
        have e1 : L.length = lc.length := by rw [← hp, pl_length]
        have e2 : lw.length = lc.length := by rw [← e1, ← HP.out.2.1, pl_length]
        rw [e1, e2]
        exact same_any lc lw qs Bc B cc c W (hp.trans HP.out.2.1.symm) (by have := HG.out.1; omega) hrow (row_of_own2 e2 ho.row) hrws (ho.rws.no ho.tu)
      clear hn
      go_wp2_with (first | (go_at_call 17; (with_reducible refine C5.out.mono ?_); rintro e w7 ⟨lc, Bc, cc, rfl, ht, hp, hv⟩; have H7 := Lib.hid (And.intro (HP.out.2.2.no ht) (And.intro hp hv)); clear ht hp hv) | (go_at_call 16; (with_reducible refine (CS.out _ _ _ _ H7.out.1 H7.out.2.1 H7.out.2.2.read H7.out.2.2.wss.rws).mono ?_); rintro e w8 ⟨rfl, ht⟩; have H8 := Lib.hid (H7.out.1.tu.trans ht); clear ht) | (go_at_call 9; (with_reducible refine (CW.out _).mono ?_); rintro e w10 ⟨rfl, ht⟩; have H10 := Lib.hid (H8.out.trans ht); clear ht))
      go_ret
      exact ⟨rfl, H10.out.bel2⟩
end Go.Proofs.Ythopiamiipmobaa
