/-
  The law LinearMoves: two marks side by side, of operations that are apart, may change places.
-/
import Derived.Test.YtllppkfeiifklaaMox
import Derived.Test.YtllppkfeiifklaaWApr
import Derived.Test.YtllppkfeiifklaaJ39
import Derived.Test.YtllppkfeiifklaaJ38
namespace Go.Proofs.Ytllppkfeiifklaa
open Go.RowKit Go.Lib
set_option linter.unusedVariables false
set_option maxRecDepth 20000
set_option linter.unusedSimpArgs false

theorem tmod_fit (i : Int) {n : Int} (hn : 0 < n) : -n < i.tmod n ∧ i.tmod n < n := by
  refine ⟨?_, Int.tmod_lt_of_pos i hn⟩
  by_cases h : 0 ≤ i
  · have := Int.tmod_nonneg n h
    omega
  · have h1 := Int.neg_tmod i n
    have h2 := Int.tmod_lt_of_pos (-i) hn
    omega
/-- Two marks side by side, cut out of a row. -/
theorem cut_two {α : Type} {l : List α} {i : Nat} {a b : α} (ha : l[i]? = some a) (hb : l[i + 1]? = some b) : l = l.take i ++ a :: b :: l.drop (i + 2) ∧ (l.take i).length = i := by
  have h1 := (List.getElem?_eq_some_iff.1 hb).1
  refine ⟨?_, by rw [List.length_take]; omega⟩
  rw [List.getElem?_eq_some_iff] at ha hb
  obtain ⟨h2, rfl⟩ := ha
  obtain ⟨h3, rfl⟩ := hb
  rw [List.getElem_cons_drop, List.getElem_cons_drop, List.take_append_drop]
theorem own_capN {w : World} {Z : Nat} {e size : Nat} {B : Option Addr} {n c : Nat} {xs : List Value} (h : w.ownsRow Z e size (.slice B n c) n xs) : n ≤ c := by
  rcases h.2 with ⟨_, h⟩ | ⟨g, cap, cur, hv, _, _, hc, _⟩
  · omega
  · injection hv with _ _ h3
    omega
theorem same_yes {l m : List Ev} {ps pm : List (List Wr)} {M : List Pr} {X Y : List Pr} (hr : Right l) (hrm : Right m) {n : Nat} (hlm : lnM m pm M n = lnM l ps M l.length) (h1 : (Right l ∧ X = lnM l ps M l.length) ∨ (¬ Right l ∧ X = [])) (h2 : (Right m ∧ Y = lnM m pm M n) ∨ (¬ Right m ∧ Y = []))
    {BX BY : Option Addr} {cX cY : Nat} {w : World} (hx : Row w BX (pcs X)) (hy : Row w BY (pcs Y)) (hn : X.length ≤ 100000) : Calls Try.prog 16 #[.slice BX X.length cX, .slice BY Y.length cY] w fun e w' => e = .returned (.bool true) ∧ Turn No w w' := by
  have h : X = Y := by
    rcases h1 with ⟨_, h1⟩ | ⟨h1, _⟩
    · rcases h2 with ⟨_, h2⟩ | ⟨h2, _⟩
      · rw [h1, h2, hlm]
      · exact absurd hrm h2
    · exact absurd hr h1
  refine (same_any BX cX X BY cY Y w hx hy hn).mono ?_
  rintro e w' ⟨rfl, ht⟩
  rw [decide_eq_true h]
  exact ⟨rfl, ht⟩
/-- What the exchange comes to. -/
theorem moves_plain {l : List Ev} {ps : List (List Wr)} {M : List Pr} (hM : Asc M) {i : Nat} {ea eb : Ev} (hr : Right l) (hps : ps.length = l.length) (ha : l[i]? = some ea) (hb : l[i + 1]? = some eb) (ka : ea.kind = 2) (kb : eb.kind = 2)
    (hap : (stO l ea.id).kind ≠ 5 ∧ (stO l eb.id).kind ≠ 5 ∧ sharesO (stO l ea.id).kind (stO l ea.id).k (stW l ps ea.id) (stO l eb.id).kind (stO l eb.id).k (stW l ps eb.id) = false) :
    ∃ pm, Right (l.take i ++ eb :: ea :: l.drop (i + 2)) ∧ (Upto (l.take i ++ eb :: ea :: l.drop (i + 2)) pm M (l.take i ++ eb :: ea :: l.drop (i + 2)).length ↔ Upto l ps M l.length) ∧
      lnM (l.take i ++ eb :: ea :: l.drop (i + 2)) pm M (l.take i ++ eb :: ea :: l.drop (i + 2)).length = lnM l ps M l.length ∧ (l.take i ++ eb :: ea :: l.drop (i + 2)).length = l.length ∧
      ∀ (w : World) (B B2 : Option Addr) (cap c2 Z : Nat), InE w B cap l ps → w.ownsRow Z 40 13 (.slice B2 l.length c2) l.length (ecs (l.take i ++ eb :: ea :: l.drop (i + 2))) → l.length ≤ c2 → InE w B2 c2 (l.take i ++ eb :: ea :: l.drop (i + 2)) pm := by
  obtain ⟨hl, hX⟩ := cut_two ha hb
  obtain ⟨pa, hpa⟩ : ∃ p, ps[i]? = some p := ⟨_, List.getElem?_eq_getElem (by have := (List.getElem?_eq_some_iff.1 ha).1; omega)⟩
  obtain ⟨pb, hpb⟩ : ∃ p, ps[i + 1]? = some p := ⟨_, List.getElem?_eq_getElem (by have := (List.getElem?_eq_some_iff.1 hb).1; omega)⟩
  obtain ⟨hq, hP⟩ := cut_two hpa hpb
  generalize l.take i = X at *
  generalize l.drop (i + 2) = Y at *
  generalize ps.take i = P at *
  generalize ps.drop (i + 2) = Q at *
  subst hl hq
  have hp : P.length = X.length := by omega
  have hlen : (X ++ eb :: ea :: Y).length = (X ++ ea :: eb :: Y).length := by simp
  refine ⟨P ++ pb :: pa :: Q, hr.swap (marks_apart hr ka kb), upto_swap hM hp ka kb hap.1 hap.2.1 hap.2.2, lnM_swap hM hp ka kb hap.1 hap.2.1 hap.2.2, hlen, fun w B B2 cap c2 Z h hrow hc => ?_⟩
  exact swap_in hp h hlen.symm hrow hc
set_option maxRecDepth 100000 in
set_option maxHeartbeats 16000000 in
theorem lmoves_law (S : List Pr) (A : Option Addr) (cap : Nat) (l : List Ev) (ps : List (List Wr)) (B : Option Addr) (cap2 : Nat) (i0 : Int) (w : World) (hS : InP w A S.length cap S) (hE : Inq w B l.length cap2 l ps) (hi0 : In64 i0) :
    Calls Try.prog 6 #[.slice A S.length cap, .slice B l.length cap2, .int .i64 i0] w fun e w' => e = .returned (.bool true) ∧ Turn No w w' := by
  have C9 := Lib.hid (great8_any S A cap l ps B cap2 w hS hE)
  have HS := Lib.hid (And.intro hS hE)
  have CW := Lib.hid fun (W : World) => wakes_any W
  clear hS hE
  go_enter Try.func6, Try.ntmps6
  by_cases hq : 2 ≤ l.length
  · have hgt : decide ((l.length : Int) < 2) = false := decide_eq_false (by omega)
    go_upto_if 26 with (go_at_call 9; refine C9.out.mono ?_; rintro e w1 ⟨⟨(_ | _), rfl, hg⟩, ht⟩ <;> have H1 := Lib.hid (And.intro hg ht) <;> clear hg ht)
    · clear C9
      have hfew : S.length ≤ 100 ∧ FewE l ps := by first | exact H1.out.1 rfl | exact H1.out.1 trivial
      have HIN : Hid (InE w B cap2 l ps) := Lib.hid (HS.out.2.inE hfew.2)
      have hn := hfew.1
      have hll : l.length ≤ 200 := hfew.2.len
      have hd0 : ¬ ((l.length : Int) - 1 = 0) := by omega
      have IPN : Hid (∀ W, Turn No w W → InP W A S.length cap S) := Lib.hid fun W t => ⟨HS.out.1.hlen, HS.out.1.hmax, HS.out.1.row.no t, HS.out.1.fit, HS.out.1.nil⟩
      have T1 := Lib.hid H1.out.2
      have HN := Lib.hid hn
      clear hfew H1
      go_upto_region 4 with fail
      have hfit := tmod_fit i0 (n := (l.length : Int) - 1) (by omega)
      generalize i0.tmod ((l.length : Int) - 1) = t at hfit ⊢
      go_upto_if 34 with fail
      go_cut [7] from 34 to 39 (fun s wx => ∃ i : Nat, i + 1 < l.length ∧ s = .int .i64 (i : Int) ∧ wx = w1)
      case first =>
        by_cases ht0 : t < 0
        · have hlt : decide (t < 0) = true := decide_eq_true ht0
          go_wp2_with fail
          go_meet
          exact ⟨(t + (l.length : Int) - 1).toNat, by omega, by go_num, rfl⟩
        · have hlt : decide (t < 0) = false := decide_eq_false ht0
          go_wp2_with fail
          go_meet
          exact ⟨t.toNat, by omega, by go_num, rfl⟩
      case rest =>
        obtain ⟨i, hi, rfl, hwc⟩ := hcut
        subst hwc
        clear hfit
        have C21 := Lib.hid (check_any l B cap2 _ (HIN.out.no T1.out).row HIN.out.ids (by omega))
        go_upto_region 7 with (go_at_call 21; (with_reducible refine C21.out.mono ?_); rintro e w2 ⟨at_, code, rfl, hc, ht⟩; have H2 := Lib.hid hc; have T2 := Lib.hid (T1.out.trans ht); clear hc ht)
        clear C21 T1
        obtain ⟨ea, hea⟩ : ∃ e, l[i]? = some e := ⟨l[i], List.getElem?_eq_getElem (by omega)⟩
        obtain ⟨eb, heb⟩ : ∃ e, l[i + 1]? = some e := ⟨l[i + 1], List.getElem?_eq_getElem (by omega)⟩
        have hin := HIN.out.no T2.out
        obtain ⟨bl, off, hA, hbl, hx⟩ := hin.row.ev hea
        obtain ⟨bl2, off2, hA2, _, hy⟩ := hin.row.ev heb
        rw [hA] at hA2
        injection hA2 with hA2
        injection hA2 with hA2 hA3
        subst hA2 hA3
        have HXY : Hid (∀ W, Turn No w2 W → W.cell? ⟨bl, off + i * 13 + 1, none⟩ = some (.int .i64 ea.id) ∧ W.cell? ⟨bl, off + (i + 1) * 13 + 1, none⟩ = some (.int .i64 eb.id)) := Lib.hid fun W t => ⟨(World.cell?_of_block (w := w2) (t.block bl hbl (fun h => h))).trans (hx 1 _ rfl), (World.cell?_of_block (w := w2) (t.block bl hbl (fun h => h))).trans (hy 1 _ rfl)⟩
        have x0 := hx 0 _ rfl
        have y0 := hy 0 _ rfl
        simp only [Nat.add_zero] at x0 y0
        have HE := Lib.hid (And.intro hea heb)
        have HRW := Lib.hid hin.row
        have HBI : Hid (∀ W, Turn No w W → InE W (some ⟨bl, off, none⟩) cap2 l ps) := Lib.hid fun W t => by rw [← hA]; exact HIN.out.no t
        subst hA
        clear hin hx hy hea heb hbl
        have hq1 : (0 : Int) ≤ (i : Int) := by omega
        have hq2 : (i : Int) < (l.length : Int) := by omega
        have hq3 : (i : Int) + 1 < (l.length : Int) := by omega
        by_cases hz : code = 0
        · subst hz
          have HRT : Hid (Right l) := Lib.hid (by
            rcases H2.out with ⟨h, _⟩ | ⟨n, _, _, h⟩
            · exact h
            · cases h)
          clear H2
          by_cases ka : ea.kind = 2
          · have ka1 : (ea.kind != 2) = false := by simp [ka]
            by_cases kb : eb.kind = 2
            · have kb1 : (eb.kind != 2) = false := by simp [kb]
              have HK := Lib.hid (And.intro ka kb)
              clear ka kb
              have hin := HBI.out w2 T2.out
              have C22 := Lib.hid (state_any ea.id l ps (some ⟨bl, off, none⟩) cap2 w2 hin.row hin.rws (by omega))
              have hswa := stW_len hin.rws ea.id
              have hswb := stW_len hin.rws eb.id
              have C22b : Hid (∀ W, Turn No w W → Calls Try.prog 22 #[.slice (some ⟨bl, off, none⟩) l.length cap2, .int .i64 eb.id] W fun r w' => ∃ o : Opx, r = .returned (.tuple #[o.valH, (stA l eb.id).valH, .int .i64 (stN l eb.id)]) ∧ Turn No W w' ∧ o.pure = stO l eb.id ∧ w'.ownsRow W.heap.size 68 3 (.slice o.A o.len o.cap) o.len (wcs (stW l ps eb.id))) := Lib.hid fun W t => state_any eb.id l ps (some ⟨bl, off, none⟩) cap2 W (HBI.out W t).row (HBI.out W t).rws (by omega)
              have HSW := Lib.hid (And.intro hswa hswb)
              obtain ⟨aa, haa⟩ : ∃ a, stA l ea.id = a := ⟨_, rfl⟩
              obtain ⟨ba, hba⟩ : ∃ a, stA l eb.id = a := ⟨_, rfl⟩
              rw [haa] at C22
              rw [hba] at C22b
              clear hin hswa hswb haa hba
              go_upto_region 9 with fail
              clear x0 y0 ka1 kb1
              obtain ⟨x1, _⟩ := HXY.out w2 (Turn.refl _ _)
              go_upto_region 10 with (go_at_call 22; (with_reducible refine C22.out.mono ?_); rintro e2 w5 ⟨⟨ak0, a1, a2, a3, a4, a5, aA, al, ac⟩, rfl, ht, hp, hrow⟩; have H5 := Lib.hid (And.intro ht (And.intro hp hrow)); clear ht hp hrow; simp only [Opx.valH, Ans.valH])
              have hlen1 : (stW l ps ea.id).length = al := by rw [HSW.out.1, ← H5.out.2.1]; rfl
              subst hlen1
              have H6 : Hid (Turn No w2 ((w5.alloc (.cells #[.int .u8 ak0, .string a1, .string a2, .string a3, .bool a4, .bool a5, .slice aA (stW l ps ea.id).length ac] 34)).alloc (.cells #[.int .i64 aa.code, .bool aa.found, .string aa.k, .string aa.v] 38)) ∧ At ((w5.alloc (.cells #[.int .u8 ak0, .string a1, .string a2, .string a3, .bool a4, .bool a5, .slice aA (stW l ps ea.id).length ac] 34)).alloc (.cells #[.int .i64 aa.code, .bool aa.found, .string aa.k, .string aa.v] 38)) w5.heap.size (.cells #[.int .u8 ak0, .string a1, .string a2, .string a3, .bool a4, .bool a5, .slice aA (stW l ps ea.id).length ac] 34 (0, 0)) ∧ Row ((w5.alloc (.cells #[.int .u8 ak0, .string a1, .string a2, .string a3, .bool a4, .bool a5, .slice aA (stW l ps ea.id).length ac] 34)).alloc (.cells #[.int .i64 aa.code, .bool aa.found, .string aa.k, .string aa.v] 38)) aA (wcs (stW l ps ea.id))) := Lib.hid (by
                have t2 : Turn No w5 ((w5.alloc (.cells #[.int .u8 ak0, .string a1, .string a2, .string a3, .bool a4, .bool a5, .slice aA (stW l ps ea.id).length ac] 34)).alloc (.cells #[.int .i64 aa.code, .bool aa.found, .string aa.k, .string aa.v] 38)) := ((Turn.refl _ _).alloc _).alloc _
                exact ⟨H5.out.1.trans t2, (At.new _ _).no ((Turn.refl _ _).alloc _), (row_of_own H5.out.2.2).no t2⟩)
              have HPA := Lib.hid H5.out.2.1
              try rw [World.size_alloc]
              clear H5 C22 x1
              generalize (w5.alloc (.cells #[.int .u8 ak0, .string a1, .string a2, .string a3, .bool a4, .bool a5, .slice aA (stW l ps ea.id).length ac] 34)).alloc (.cells #[.int .i64 aa.code, .bool aa.found, .string aa.k, .string aa.v] 38) = w6 at H6 ⊢
              generalize w5.heap.size = g10 at H6 ⊢
              obtain ⟨_, y1⟩ := HXY.out w6 H6.out.1
              have T6 := Lib.hid (T2.out.trans H6.out.1)
              go_upto_region 11 with (go_at_call 22; (with_reducible refine (C22b.out _ T6.out).mono ?_); rintro e2 w7 ⟨⟨bk0, b1, b2, b3, b4, b5, bA, bl', bc⟩, rfl, ht, hp, hrow⟩; have H7 := Lib.hid (And.intro ht (And.intro hp hrow)); clear ht hp hrow; simp only [Opx.valH, Ans.valH])
              have hlen2 : (stW l ps eb.id).length = bl' := by rw [HSW.out.2, ← H7.out.2.1]; rfl
              subst hlen2
              have H8 : Hid (Turn No w6 ((w7.alloc (.cells #[.int .u8 bk0, .string b1, .string b2, .string b3, .bool b4, .bool b5, .slice bA (stW l ps eb.id).length bc] 34)).alloc (.cells #[.int .i64 ba.code, .bool ba.found, .string ba.k, .string ba.v] 38)) ∧ At ((w7.alloc (.cells #[.int .u8 bk0, .string b1, .string b2, .string b3, .bool b4, .bool b5, .slice bA (stW l ps eb.id).length bc] 34)).alloc (.cells #[.int .i64 ba.code, .bool ba.found, .string ba.k, .string ba.v] 38)) g10 (.cells #[.int .u8 ak0, .string a1, .string a2, .string a3, .bool a4, .bool a5, .slice aA (stW l ps ea.id).length ac] 34 (0, 0)) ∧ At ((w7.alloc (.cells #[.int .u8 bk0, .string b1, .string b2, .string b3, .bool b4, .bool b5, .slice bA (stW l ps eb.id).length bc] 34)).alloc (.cells #[.int .i64 ba.code, .bool ba.found, .string ba.k, .string ba.v] 38)) w7.heap.size (.cells #[.int .u8 bk0, .string b1, .string b2, .string b3, .bool b4, .bool b5, .slice bA (stW l ps eb.id).length bc] 34 (0, 0)) ∧ Row ((w7.alloc (.cells #[.int .u8 bk0, .string b1, .string b2, .string b3, .bool b4, .bool b5, .slice bA (stW l ps eb.id).length bc] 34)).alloc (.cells #[.int .i64 ba.code, .bool ba.found, .string ba.k, .string ba.v] 38)) aA (wcs (stW l ps ea.id)) ∧ Row ((w7.alloc (.cells #[.int .u8 bk0, .string b1, .string b2, .string b3, .bool b4, .bool b5, .slice bA (stW l ps eb.id).length bc] 34)).alloc (.cells #[.int .i64 ba.code, .bool ba.found, .string ba.k, .string ba.v] 38)) bA (wcs (stW l ps eb.id))) := Lib.hid (by
                have t2 : Turn No w7 ((w7.alloc (.cells #[.int .u8 bk0, .string b1, .string b2, .string b3, .bool b4, .bool b5, .slice bA (stW l ps eb.id).length bc] 34)).alloc (.cells #[.int .i64 ba.code, .bool ba.found, .string ba.k, .string ba.v] 38)) := ((Turn.refl _ _).alloc _).alloc _
                have t3 := H7.out.1.trans t2
                exact ⟨t3, H6.out.2.1.no t3, (At.new _ _).no ((Turn.refl _ _).alloc _), H6.out.2.2.no t3, (row_of_own H7.out.2.2).no t2⟩)
              have HPB := Lib.hid H7.out.2.1
              have T8 := Lib.hid (T6.out.trans H8.out.1)
              try rw [World.size_alloc]
              clear H7 H6 C22b y1 T6
              generalize (w7.alloc (.cells #[.int .u8 bk0, .string b1, .string b2, .string b3, .bool b4, .bool b5, .slice bA (stW l ps eb.id).length bc] 34)).alloc (.cells #[.int .i64 ba.code, .bool ba.found, .string ba.k, .string ba.v] 38) = w8 at H8 T8 ⊢
              generalize w7.heap.size = g13 at H8 ⊢
              obtain ⟨fa0, fa1, fa2, fa3, fa4, fa5, fa6⟩ : w8.cell? ⟨g10, 0, none⟩ = some (.int .u8 ak0) ∧ w8.cell? ⟨g10, 1, none⟩ = some (.string a1) ∧ w8.cell? ⟨g10, 2, none⟩ = some (.string a2) ∧ w8.cell? ⟨g10, 3, none⟩ = some (.string a3) ∧ w8.cell? ⟨g10, 4, none⟩ = some (.bool a4) ∧ w8.cell? ⟨g10, 5, none⟩ = some (.bool a5) ∧ w8.cell? ⟨g10, 6, none⟩ = some (.slice aA (stW l ps ea.id).length ac) := ⟨H8.out.2.1.cell 0, H8.out.2.1.cell 1, H8.out.2.1.cell 2, H8.out.2.1.cell 3, H8.out.2.1.cell 4, H8.out.2.1.cell 5, H8.out.2.1.cell 6⟩
              obtain ⟨fb0, fb1, fb2, fb3, fb4, fb5, fb6⟩ : w8.cell? ⟨g13, 0, none⟩ = some (.int .u8 bk0) ∧ w8.cell? ⟨g13, 1, none⟩ = some (.string b1) ∧ w8.cell? ⟨g13, 2, none⟩ = some (.string b2) ∧ w8.cell? ⟨g13, 3, none⟩ = some (.string b3) ∧ w8.cell? ⟨g13, 4, none⟩ = some (.bool b4) ∧ w8.cell? ⟨g13, 5, none⟩ = some (.bool b5) ∧ w8.cell? ⟨g13, 6, none⟩ = some (.slice bA (stW l ps eb.id).length bc) := ⟨H8.out.2.2.1.cell 0, H8.out.2.2.1.cell 1, H8.out.2.2.1.cell 2, H8.out.2.2.1.cell 3, H8.out.2.2.1.cell 4, H8.out.2.2.1.cell 5, H8.out.2.2.1.cell 6⟩
              have CAP : Hid (Calls Try.prog 23 #[.agg #[.int .u8 ak0, .string a1, .string a2, .string a3, .bool a4, .bool a5, .slice aA (stW l ps ea.id).length ac], .agg #[.int .u8 bk0, .string b1, .string b2, .string b3, .bool b4, .bool b5, .slice bA (stW l ps eb.id).length bc]] w8 fun e w' => ApRes w8 (ak0 ≠ 5 ∧ bk0 ≠ 5 ∧ sharesO ak0 a1 (stW l ps ea.id) bk0 b1 (stW l ps eb.id) = false) e w') := Lib.hid (apart_any ak0 a1 a2 a3 a4 a5 aA ac _ bk0 b1 b2 b3 b4 b5 bA bc _ w8 (by have h1 := (HIN.out.few.st HIN.out.rws.len ea.id).n; omega) H8.out.2.2.2.1 (by have h1 := (HIN.out.few.st HIN.out.rws.len eb.id).n; omega) H8.out.2.2.2.2)
              go_upto_if 91 with (go_at_call 23; (with_reducible refine CAP.out.mono ?_); rintro e2 w9 ⟨bb, rfl, himp, ht⟩; have H9 := Lib.hid himp; have T9 := Lib.hid (T8.out.trans ht); clear himp ht)
              clear CAP fa0 fa1 fa2 fa3 fa4 fa5 fa6 fb0 fb1 fb2 fb3 fb4 fb5 fb6 H8 T8
              obtain ⟨br, hbr⟩ : ∃ x, x = bb := ⟨_, rfl⟩
              subst hbr
              cases br with
              | false =>
                go_wp2_with (go_at_call 10; refine (CW.out _).mono ?_; rintro e w3 ⟨rfl, ht⟩; have H3 := Lib.hid ht; clear ht)
                go_ret
                exact ⟨rfl, T9.out.trans H3.out⟩
              | true =>
                have HAP : Hid ((stO l ea.id).kind ≠ 5 ∧ (stO l eb.id).kind ≠ 5 ∧ sharesO (stO l ea.id).kind (stO l ea.id).k (stW l ps ea.id) (stO l eb.id).kind (stO l eb.id).k (stW l ps eb.id) = false) := Lib.hid (by rw [← HPA.out, ← HPB.out]; first | exact H9.out rfl | exact H9.out trivial)
                clear H9 HPA HPB
                go_upto_region 13 with fail
                obtain ⟨B', c', w10, q, hq⟩ : ∃ B' c' w10, AppRun 23 23 (.slice (some ⟨w9.heap.size, 0, none⟩) 0 0) (.slice (some ⟨bl, off, none⟩) l.length cap2) (.slice B' l.length c') (w9.alloc (.cells #[] 40)) w10 ∧ w10.ownsRow w.heap.size 40 13 (.slice B' l.length c') l.length (ecs l) ∧ Turn No w w10 := by
                  have hz := T9.out.size
                  have tn : Turn No w9 (w9.alloc (.cells #[] 40)) := (Turn.refl _ _).alloc _
                  obtain ⟨B', c', w10, q, ho, ht, _⟩ := app_gen Try.underlying23 info34 rfl (by decide) (by decide) (World.ownsRow_lit w9 #[] 0 hz (by decide) rfl) ⟨bl, off, none⟩ l.length cap2 (ecs l) (ecs_length l) (fun j u hj => by
                    obtain ⟨b, o, hA, _, hc⟩ := (HBI.out _ (T9.out.trans tn)).row j u hj
                    injection hA with hA
                    injection hA with e1 e2
                    subst e1 e2
                    rw [Addr.add_mid]
                    exact hc) (fun u hu => by
                    obtain ⟨e, _, he⟩ := List.mem_flatMap.1 hu
                    exact one_ev e u he) (by omega) (Nat.le_trans hz tn.size) 23
                  rw [Nat.zero_add] at q ho
                  refine ⟨B', c', w10, q, ho, (T9.out.trans tn).then ht fun k hk e => ?_⟩
                  have e2 : w9.heap.size = k := by injection e
                  omega
                have HQ := Lib.hid hq
                clear hq
                go_upto_region 14 with (at_builtin; refine wpList_append_run rfl _ _ 23 rfl _ _ _ rfl rfl q ?_)
                have TW := Lib.hid HQ.out.2
                obtain ⟨gm, hgm⟩ : ∃ gm, B' = some ⟨gm, 0, none⟩ := by
                  rcases HQ.out.1.2 with ⟨h, h2⟩ | ⟨g, cp, cur, hv, _⟩
                  · omega
                  · injection hv with h
                    exact ⟨g, h⟩
                subst hgm
                have hcut := cut_two HE.out.1 HE.out.2
                have HO : Hid (w10.drew.ownsRow w.heap.size 40 13 (.slice (some ⟨gm, 0, none⟩) l.length c') l.length (ecs (l.take i ++ ea :: eb :: l.drop (i + 2)))) := Lib.hid (by
                  rw [← hcut.1]
                  exact own_grown HQ.out.1 (Turn.refl No w10).drew (fun _ _ h => h))
                obtain ⟨xla, xlb, xta, xtb, xta2, xtb2, xone, xtwo⟩ := sx_of HO.out
                rw [hcut.2] at xla xlb xta xtb xta2 xtb2 xone xtwo
                have HCUT := Lib.hid hcut
                have HL13 : Hid (ea.cs.length = 13 ∧ eb.cs.length = 13 ∧ ea.cs.toArray.all (·.oneCell') = true ∧ eb.cs.toArray.all (·.oneCell') = true) := Lib.hid ⟨rfl, rfl, all_one (one_ev ea), all_one (one_ev eb)⟩
                have tg : ∀ {W}, Turn (fun k => k = gm) w10.drew W → Turn No w W := fun {W} t => TW.out.drew.then t fun k hk e => by
                  have := (own_at (i := gm) HO.out rfl).1
                  omega
                have HE1 := Lib.hid (And.intro xone (tg ((turn_sets gm eb.cs (i * 13) _).trans (turn_sets gm ea.cs ((i + 1) * 13) _))))
                have HE2 := Lib.hid (And.intro xtwo (tg ((turn_sets gm ea.cs ((i + 1) * 13) _).trans (turn_sets gm eb.cs (i * 13) _))))
                have HXA := Lib.hid (And.intro (And.intro xla xlb) (And.intro (And.intro xta xtb) (And.intro xta2 xtb2)))
                clear tg xla xlb xta xtb xta2 xtb2 xone xtwo hcut HO
                obtain ⟨ca, hca⟩ : ∃ x, ea.cs = x := ⟨_, rfl⟩
                obtain ⟨cb, hcb⟩ : ∃ x, eb.cs = x := ⟨_, rfl⟩
                rw [hca, hcb] at HL13 HE1 HE2 HXA
                clear hca hcb
                have hia : (Try.prog.info? 40).map (·.size) = some ca.length := by rw [HL13.out.1]; exact inf34
                have hib : (Try.prog.info? 40).map (·.size) = some cb.length := by rw [HL13.out.2.1]; exact inf34
                have hta : ∀ {W : World} {o : Nat}, W.there gm o 13 → W.there gm o ca.toArray.size := fun {W o} h => by simpa [HL13.out.1] using h
                have htb : ∀ {W : World} {o : Nat}, W.there gm o 13 → W.there gm o cb.toArray.size := fun {W o} h => by simpa [HL13.out.2.1] using h
                have KX := Lib.hid (And.intro (And.intro hia hib) (And.intro @hta @htb))
                clear hia hib hta htb
                go_cut [7] from 96 to 111 (fun s wx => s = .int .i64 (i : Int) ∧ Hid (wx.ownsRow w.heap.size 40 13 (.slice (some ⟨gm, 0, none⟩) l.length c') l.length (ecs (l.take i ++ eb :: ea :: l.drop (i + 2))) ∧ Turn No w wx))
                case first =>
                  refine wp_region_any (by kernel_rfl) ?_
                  change wpAny _ _ _ _ _ _ _ w10.drew
                  have KXA : (Try.prog.info? 40).map (·.size) = some ca.toArray.size := by rw [KX.out.1.1]; simp
                  have KXB : (Try.prog.info? 40).map (·.size) = some cb.toArray.size := by rw [KX.out.1.2]; simp
                  have hwrap : IntKind.i64.wrap ((i : Int) + 1) = (i : Int) + 1 := IntWalk.i64_in _ ⟨by omega, by omega⟩
                  refine wpAny_take (i := 0) (v := (.slice (some ⟨gm, 0, none⟩) l.length c')) rfl (by decide +kernel) (by decide +kernel) (by decide +kernel) (fun _ _ _ h => h) (Or.inl ⟨by (first | rfl | (go_simp; done) | (simp [Region.wanted, yielded]; done)), ?h0⟩) ?r0
                  case h0 => (intro w0; first | (go_simp; done) | (go_simp; with_reducible rfl) | (go_simp; rw [hwrap]; done) | (go_simp; intro hneg; exfalso; omega))
                  try simp only [Act.put, List.getElem_toArray, List.getElem_cons_succ, List.getElem_cons_zero, List.setIfInBounds_toArray, List.set_cons_zero, List.set_cons_succ]
                  refine wpAny_take (i := 1) (v := (.int .i64 (i : Int))) rfl (by decide +kernel) (by decide +kernel) (by decide +kernel) (fun _ _ _ h => h) (Or.inl ⟨by (first | rfl | (go_simp; done) | (simp [Region.wanted, yielded]; done)), ?h1⟩) ?r1
                  case h1 => (intro w0; first | (go_simp; done) | (go_simp; with_reducible rfl) | (go_simp; rw [hwrap]; done) | (go_simp; intro hneg; exfalso; omega))
                  try simp only [Act.put, List.getElem_toArray, List.getElem_cons_succ, List.getElem_cons_zero, List.setIfInBounds_toArray, List.set_cons_zero, List.set_cons_succ]
                  refine wpAny_take (i := 2) (v := (.slice (some ⟨gm, 0, none⟩) l.length c')) rfl (by decide +kernel) (by decide +kernel) (by decide +kernel) (fun _ _ _ h => h) (Or.inl ⟨by (first | rfl | (go_simp; done) | (simp [Region.wanted, yielded]; done)), ?h2⟩) ?r2
                  case h2 => (intro w0; first | (go_simp; done) | (go_simp; with_reducible rfl) | (go_simp; rw [hwrap]; done) | (go_simp; intro hneg; exfalso; omega))
                  try simp only [Act.put, List.getElem_toArray, List.getElem_cons_succ, List.getElem_cons_zero, List.setIfInBounds_toArray, List.set_cons_zero, List.set_cons_succ]
                  refine wpAny_take (i := 3) (v := (.int .i64 (i : Int))) rfl (by decide +kernel) (by decide +kernel) (by decide +kernel) (fun _ _ _ h => h) (Or.inl ⟨by (first | rfl | (go_simp; done) | (simp [Region.wanted, yielded]; done)), ?h3⟩) ?r3
                  case h3 => (intro w0; first | (go_simp; done) | (go_simp; with_reducible rfl) | (go_simp; rw [hwrap]; done) | (go_simp; intro hneg; exfalso; omega))
                  try simp only [Act.put, List.getElem_toArray, List.getElem_cons_succ, List.getElem_cons_zero, List.setIfInBounds_toArray, List.set_cons_zero, List.set_cons_succ]
                  refine wpAny_take (i := 4) (v := (.int .i64 ((i : Int) + 1))) rfl (by decide +kernel) (by decide +kernel) (by decide +kernel) (fun _ _ _ h => h) (Or.inl ⟨by (first | rfl | (go_simp; done) | (simp [Region.wanted, yielded]; done)), ?h4⟩) ?r4
                  case h4 => (intro w0; first | (go_simp; done) | (go_simp; with_reducible rfl) | (go_simp; rw [hwrap]; done) | (go_simp; intro hneg; exfalso; omega))
                  try simp only [Act.put, List.getElem_toArray, List.getElem_cons_succ, List.getElem_cons_zero, List.setIfInBounds_toArray, List.set_cons_zero, List.set_cons_succ]
                  refine wpAny_take (i := 5) (v := (.slice (some ⟨gm, 0, none⟩) l.length c')) rfl (by decide +kernel) (by decide +kernel) (by decide +kernel) (fun _ _ _ h => h) (Or.inl ⟨by (first | rfl | (go_simp; done) | (simp [Region.wanted, yielded]; done)), ?h5⟩) ?r5
                  case h5 => (intro w0; first | (go_simp; done) | (go_simp; with_reducible rfl) | (go_simp; rw [hwrap]; done) | (go_simp; intro hneg; exfalso; omega))
                  try simp only [Act.put, List.getElem_toArray, List.getElem_cons_succ, List.getElem_cons_zero, List.setIfInBounds_toArray, List.set_cons_zero, List.set_cons_succ]
                  refine wpAny_take (i := 6) (v := (.int .i64 (i : Int))) rfl (by decide +kernel) (by decide +kernel) (by decide +kernel) (fun _ _ _ h => h) (Or.inl ⟨by (first | rfl | (go_simp; done) | (simp [Region.wanted, yielded]; done)), ?h6⟩) ?r6
                  case h6 => (intro w0; first | (go_simp; done) | (go_simp; with_reducible rfl) | (go_simp; rw [hwrap]; done) | (go_simp; intro hneg; exfalso; omega))
                  try simp only [Act.put, List.getElem_toArray, List.getElem_cons_succ, List.getElem_cons_zero, List.setIfInBounds_toArray, List.set_cons_zero, List.set_cons_succ]
                  refine wpAny_take (i := 7) (v := (.int .i64 ((i : Int) + 1))) rfl (by decide +kernel) (by decide +kernel) (by decide +kernel) (fun _ _ _ h => h) (Or.inl ⟨by (first | rfl | (go_simp; done) | (simp [Region.wanted, yielded]; done)), ?h7⟩) ?r7
                  case h7 => (intro w0; first | (go_simp; done) | (go_simp; with_reducible rfl) | (go_simp; rw [hwrap]; done) | (go_simp; intro hneg; exfalso; omega))
                  try simp only [Act.put, List.getElem_toArray, List.getElem_cons_succ, List.getElem_cons_zero, List.setIfInBounds_toArray, List.set_cons_zero, List.set_cons_succ]
                  refine wpAny_take (i := 8) (v := (.pointer (some ⟨gm, (i + 1) * 13, none⟩))) rfl (by decide +kernel) (by decide +kernel) (by decide +kernel) (fun _ _ _ h => h) (Or.inl ⟨by (first | rfl | (go_simp; done) | (simp [Region.wanted, yielded]; done)), ?h8⟩) ?r8
                  case h8 => (intro w0; first | (go_simp; done) | (go_simp; with_reducible rfl) | (go_simp; rw [hwrap]; done) | (go_simp; intro hneg; exfalso; omega))
                  try simp only [Act.put, List.getElem_toArray, List.getElem_cons_succ, List.getElem_cons_zero, List.setIfInBounds_toArray, List.set_cons_zero, List.set_cons_succ]
                  refine wpAny_take (i := 10) (v := (.slice (some ⟨gm, 0, none⟩) l.length c')) rfl (by decide +kernel) (by decide +kernel) (by decide +kernel) (fun _ _ _ h => h) (Or.inl ⟨by (first | rfl | (go_simp; done) | (simp [Region.wanted, yielded]; done)), ?h10⟩) ?r10
                  case h10 => (intro w0; first | (go_simp; done) | (go_simp; with_reducible rfl) | (go_simp; rw [hwrap]; done) | (go_simp; intro hneg; exfalso; omega))
                  try simp only [Act.put, List.getElem_toArray, List.getElem_cons_succ, List.getElem_cons_zero, List.setIfInBounds_toArray, List.set_cons_zero, List.set_cons_succ]
                  refine wpAny_take (i := 11) (v := (.int .i64 (i : Int))) rfl (by decide +kernel) (by decide +kernel) (by decide +kernel) (fun _ _ _ h => h) (Or.inl ⟨by (first | rfl | (go_simp; done) | (simp [Region.wanted, yielded]; done)), ?h11⟩) ?r11
                  case h11 => (intro w0; first | (go_simp; done) | (go_simp; with_reducible rfl) | (go_simp; rw [hwrap]; done) | (go_simp; intro hneg; exfalso; omega))
                  try simp only [Act.put, List.getElem_toArray, List.getElem_cons_succ, List.getElem_cons_zero, List.setIfInBounds_toArray, List.set_cons_zero, List.set_cons_succ]
                  refine wpAny_take (i := 12) (v := (.pointer (some ⟨gm, i * 13, none⟩))) rfl (by decide +kernel) (by decide +kernel) (by decide +kernel) (fun _ _ _ h => h) (Or.inl ⟨by (first | rfl | (go_simp; done) | (simp [Region.wanted, yielded]; done)), ?h12⟩) ?r12
                  case h12 => (intro w0; first | (go_simp; done) | (go_simp; with_reducible rfl) | (go_simp; rw [hwrap]; done) | (go_simp; intro hneg; exfalso; omega))
                  try simp only [Act.put, List.getElem_toArray, List.getElem_cons_succ, List.getElem_cons_zero, List.setIfInBounds_toArray, List.set_cons_zero, List.set_cons_succ]
                  refine wpAny_ready (rs := [9, 13]) (by decide +kernel) (by simp) ?_
                  refine AllReady.cons rfl (fun K hK => ?_) (AllReady.cons rfl (fun K hK => ?_) AllReady.nil)
                  · rw [if_pos (by rfl)]
                    (refine wp_load_mid 40 _ rfl gm ((i + 1) * 13) rfl cb _ HXA.out.1.2 Try.underlying40 rfl KX.out.1.2 (hK _ _ ?_))
                    clear hK
                    try simp only [Act.put, List.getElem_toArray, List.getElem_cons_succ, List.getElem_cons_zero, List.setIfInBounds_toArray, List.set_cons_zero, List.set_cons_succ]
                    refine wpAny_ready (rs := [13]) (by decide +kernel) (by simp) ?_
                    refine AllReady.cons rfl (fun K hK => ?_) AllReady.nil
                    rw [if_pos (by rfl)]
                    (refine wp_load_mid 40 _ rfl gm (i * 13) rfl ca _ HXA.out.1.1 Try.underlying40 rfl KX.out.1.1 (hK _ _ ?_))
                    clear hK
                    try simp only [Act.put, List.getElem_toArray, List.getElem_cons_succ, List.getElem_cons_zero, List.setIfInBounds_toArray, List.set_cons_zero, List.set_cons_succ]
                    refine wpAny_take (i := 14) (v := (.pointer (some ⟨gm, i * 13, none⟩))) rfl (by decide +kernel) (by decide +kernel) (by decide +kernel) (fun _ _ _ h => h) (Or.inl ⟨by (first | rfl | (go_simp; done) | (simp [Region.wanted, yielded]; done)), ?h14⟩) ?r14
                    case h14 => (intro w0; first | (go_simp; done) | (go_simp; with_reducible rfl) | (go_simp; rw [hwrap]; done) | (go_simp; intro hneg; exfalso; omega))
                    try simp only [Act.put, List.getElem_toArray, List.getElem_cons_succ, List.getElem_cons_zero, List.setIfInBounds_toArray, List.set_cons_zero, List.set_cons_succ]
                    refine wpAny_ready (rs := [15]) (by decide +kernel) (by simp) ?_
                    refine AllReady.cons rfl (fun K hK => ?_) AllReady.nil
                    rw [if_pos (by rfl)]
                    (refine wp_store_mid 40 _ _ rfl gm (i * 13) cb.toArray rfl rfl (KX.out.2.2 HXA.out.2.1.1) KXB HL13.out.2.2.2 (hK _ _ ?_))
                    clear hK
                    try simp only [Act.put, List.getElem_toArray, List.getElem_cons_succ, List.getElem_cons_zero, List.setIfInBounds_toArray, List.set_cons_zero, List.set_cons_succ]
                    refine wpAny_take (i := 16) (v := (.pointer (some ⟨gm, (i + 1) * 13, none⟩))) rfl (by decide +kernel) (by decide +kernel) (by decide +kernel) (fun _ _ _ h => h) (Or.inl ⟨by (first | rfl | (go_simp; done) | (simp [Region.wanted, yielded]; done)), ?h16⟩) ?r16
                    case h16 => (intro w0; first | (go_simp; done) | (go_simp; with_reducible rfl) | (go_simp; rw [hwrap]; done) | (go_simp; intro hneg; exfalso; omega))
                    try simp only [Act.put, List.getElem_toArray, List.getElem_cons_succ, List.getElem_cons_zero, List.setIfInBounds_toArray, List.set_cons_zero, List.set_cons_succ]
                    refine wpAny_ready (rs := [17]) (by decide +kernel) (by simp) ?_
                    refine AllReady.cons rfl (fun K hK => ?_) AllReady.nil
                    rw [if_pos (by rfl)]
                    (refine wp_store_mid 40 _ _ rfl gm ((i + 1) * 13) ca.toArray rfl rfl (KX.out.2.1 HXA.out.2.2.2) KXA HL13.out.2.2.1 (hK _ _ ?_))
                    clear hK
                    try simp only [Act.put, List.getElem_toArray, List.getElem_cons_succ, List.getElem_cons_zero, List.setIfInBounds_toArray, List.set_cons_zero, List.set_cons_succ]
                    refine wpAny_done (by decide +kernel) ?_ _
                    go_wp2_with fail
                    go_meet
                    exact ⟨rfl, HE1⟩
                  · rw [if_pos (by rfl)]
                    (refine wp_load_mid 40 _ rfl gm (i * 13) rfl ca _ HXA.out.1.1 Try.underlying40 rfl KX.out.1.1 (hK _ _ ?_))
                    clear hK
                    try simp only [Act.put, List.getElem_toArray, List.getElem_cons_succ, List.getElem_cons_zero, List.setIfInBounds_toArray, List.set_cons_zero, List.set_cons_succ]
                    refine wpAny_ready (rs := [9]) (by decide +kernel) (by simp) ?_
                    refine AllReady.cons rfl (fun K hK => ?_) AllReady.nil
                    rw [if_pos (by rfl)]
                    (refine wp_load_mid 40 _ rfl gm ((i + 1) * 13) rfl cb _ HXA.out.1.2 Try.underlying40 rfl KX.out.1.2 (hK _ _ ?_))
                    clear hK
                    try simp only [Act.put, List.getElem_toArray, List.getElem_cons_succ, List.getElem_cons_zero, List.setIfInBounds_toArray, List.set_cons_zero, List.set_cons_succ]
                    refine wpAny_take (i := 14) (v := (.pointer (some ⟨gm, i * 13, none⟩))) rfl (by decide +kernel) (by decide +kernel) (by decide +kernel) (fun _ _ _ h => h) (Or.inl ⟨by (first | rfl | (go_simp; done) | (simp [Region.wanted, yielded]; done)), ?h14b⟩) ?r14b
                    case h14b => (intro w0; first | (go_simp; done) | (go_simp; with_reducible rfl) | (go_simp; rw [hwrap]; done) | (go_simp; intro hneg; exfalso; omega))
                    try simp only [Act.put, List.getElem_toArray, List.getElem_cons_succ, List.getElem_cons_zero, List.setIfInBounds_toArray, List.set_cons_zero, List.set_cons_succ]
                    refine wpAny_ready (rs := [15]) (by decide +kernel) (by simp) ?_
                    refine AllReady.cons rfl (fun K hK => ?_) AllReady.nil
                    rw [if_pos (by rfl)]
                    (refine wp_store_mid 40 _ _ rfl gm (i * 13) cb.toArray rfl rfl (KX.out.2.2 HXA.out.2.1.1) KXB HL13.out.2.2.2 (hK _ _ ?_))
                    clear hK
                    try simp only [Act.put, List.getElem_toArray, List.getElem_cons_succ, List.getElem_cons_zero, List.setIfInBounds_toArray, List.set_cons_zero, List.set_cons_succ]
                    refine wpAny_take (i := 16) (v := (.pointer (some ⟨gm, (i + 1) * 13, none⟩))) rfl (by decide +kernel) (by decide +kernel) (by decide +kernel) (fun _ _ _ h => h) (Or.inl ⟨by (first | rfl | (go_simp; done) | (simp [Region.wanted, yielded]; done)), ?h16b⟩) ?r16b
                    case h16b => (intro w0; first | (go_simp; done) | (go_simp; with_reducible rfl) | (go_simp; rw [hwrap]; done) | (go_simp; intro hneg; exfalso; omega))
                    try simp only [Act.put, List.getElem_toArray, List.getElem_cons_succ, List.getElem_cons_zero, List.setIfInBounds_toArray, List.set_cons_zero, List.set_cons_succ]
                    refine wpAny_ready (rs := [17]) (by decide +kernel) (by simp) ?_
                    refine AllReady.cons rfl (fun K hK => ?_) AllReady.nil
                    rw [if_pos (by rfl)]
                    (refine wp_store_mid 40 _ _ rfl gm ((i + 1) * 13) ca.toArray rfl rfl (KX.out.2.1 HXA.out.2.2.2) KXA HL13.out.2.2.1 (hK _ _ ?_))
                    clear hK
                    try simp only [Act.put, List.getElem_toArray, List.getElem_cons_succ, List.getElem_cons_zero, List.setIfInBounds_toArray, List.set_cons_zero, List.set_cons_succ]
                    refine wpAny_done (by decide +kernel) ?_ _
                    go_wp2_with fail
                    go_meet
                    exact ⟨rfl, HE1⟩
                case rest =>
                  obtain ⟨rfl, HM⟩ := hcut
                  generalize wc = w12 at HM ⊢
                  have hml := own_capN HM.out.1
                  obtain ⟨pm, hrm, hup, hlm, hmn, hin⟩ := moves_plain (M := news S) (asc_news S) HRT.out HIN.out.rws.len HE.out.1 HE.out.2 HK.out.1 HK.out.2 HAP.out
                  obtain ⟨m, hm⟩ : ∃ x, l.take i ++ eb :: ea :: l.drop (i + 2) = x := ⟨_, rfl⟩
                  rw [hm] at hrm hup hlm hmn hin HM
                  have hlm2 := hlm
                  rw [hmn] at hlm2
                  have HPL := Lib.hid (And.intro hrm (And.intro hup hlm2))
                  have T12 := Lib.hid HM.out.2
                  have HMI : Hid (∀ W, Turn No w12 W → InE W (some ⟨gm, 0, none⟩) c' m pm) := Lib.hid fun W t => hin W (some ⟨bl, off, none⟩) (some ⟨gm, 0, none⟩) cap2 c' w.heap.size (HBI.out W (T12.out.trans t)) (own_grown HM.out.1 t (fun _ _ h => h)) hml
                  have C11 := Lib.hid fun (W : World) (t : Turn No w W) => lcheck_any S A cap l ps (some ⟨bl, off, none⟩) cap2 W (IPN.out W t) HN.out (HBI.out W t)
                  have C17 := Lib.hid fun (W : World) (t : Turn No w W) => lafter_any S A cap l ps (some ⟨bl, off, none⟩) cap2 W (IPN.out W t) HN.out (HBI.out W t)
                  have C11M := Lib.hid fun (W : World) (t : Turn No w12 W) => lcheck_any S A cap m pm (some ⟨gm, 0, none⟩) c' W (IPN.out W (T12.out.trans t)) HN.out (HMI.out W t)
                  have C17M := Lib.hid fun (W : World) (t : Turn No w12 W) => lafter_any S A cap m pm (some ⟨gm, 0, none⟩) c' W (IPN.out W (T12.out.trans t)) HN.out (HMI.out W t)
                  have hfl : ∀ X : List Pr, (Right l ∧ X = lnM l ps (news S) l.length) ∨ (¬ Right l ∧ X = []) → X.length ≤ 100000 := fun X h => by
                    rcases h with ⟨_, h4⟩ | ⟨_, h4⟩
                    · have h5 := lnM_len HIN.out.few HIN.out.rws.len (news S) l.length (Nat.le_refl _)
                      have h6 := news_few HN.out
                      rw [h4]; omega
                    · rw [h4]; simp
                  have HFL := Lib.hid hfl
                  rw [hmn] at C11M C17M
                  clear hrm hup hlm hlm2 hmn hin hm HMI HAP HCUT HE1 HE2 HXA KX HL13 TW HQ hfl
                  go_upto_region 16 with (go_at_call 11; (with_reducible refine (C11.out _ T12.out).mono ?_); rintro e w13 ⟨⟨q1, f1, rfl, hl⟩, ht⟩; have HF := Lib.hid hl; have T13 := Lib.hid ht; clear hl ht)
                  clear C11
                  obtain ⟨f, hf⟩ : ∃ x, x = f1 := ⟨_, rfl⟩
                  subst hf
                  go_upto_region 17 with (go_at_call 11; (with_reducible refine (C11M.out _ T13.out).mono ?_); rintro e w14 ⟨⟨q2, f2, rfl, hl⟩, ht⟩; have hff := code_same HRT.out HPL.out.1 HPL.out.2.1 HF.out hl; subst hff; have T14 := Lib.hid (T13.out.trans ht); clear hl ht)
                  clear C11M HF
                  go_wp2_with (first
                    | (go_at_call 17; (with_reducible refine (C17.out _ (T12.out.trans T14.out)).mono ?_); rintro e w15 ⟨X, BX, cX, rfl, hr5, ht, hd⟩; have H15 := Lib.hid (And.intro hr5 hd); have T15 := Lib.hid (T14.out.trans ht); clear hr5 ht hd)
                    | (go_at_call 17; (with_reducible refine (C17M.out _ T15.out).mono ?_); rintro e w16 ⟨Y, BY, cY, rfl, hr6, ht, hd⟩; have C16 : Hid (Calls Try.prog 16 #[.slice BX X.length cX, .slice BY Y.length cY] w16 fun e w' => e = .returned (.bool true) ∧ Turn No w16 w') := Lib.hid (same_yes HRT.out HPL.out.1 HPL.out.2.2 H15.out.2 hd (H15.out.1.no ht) hr6 (HFL.out _ H15.out.2)); have T16 := Lib.hid (T12.out.trans (T15.out.trans ht)); clear hr6 ht hd)
                    | (go_at_call 16; (with_reducible refine C16.out.mono ?_); rintro e w17 ⟨rfl, ht⟩; have T17 := Lib.hid (T16.out.trans ht); clear ht)
                    | (go_at_call 10; refine (CW.out _).mono ?_; rintro e w3 ⟨rfl, ht⟩; have H3 := Lib.hid ht; clear ht))
                  go_ret
                  exact ⟨rfl, T17.out.trans H3.out⟩
            · have kb1 : (eb.kind != 2) = true := by simpa using kb
              have ka2 : (ea.kind != 2) = false := by simp [ka]
              clear kb
              go_wp2_with (go_at_call 10; refine (CW.out _).mono ?_; rintro e w3 ⟨rfl, ht⟩; have H3 := Lib.hid ht; clear ht)
              go_ret
              exact ⟨rfl, T2.out.trans H3.out⟩
          · have ka1 : (ea.kind != 2) = true := by simpa using ka
            clear ka
            go_wp2_with (go_at_call 10; refine (CW.out _).mono ?_; rintro e w3 ⟨rfl, ht⟩; have H3 := Lib.hid ht; clear ht)
            go_ret
            exact ⟨rfl, T2.out.trans H3.out⟩
        · have hz1 : (code == 0) = false := by simpa using hz
          have hz2 : (code != 0) = true := by simpa using hz
          clear hz
          go_wp2_with (go_at_call 10; refine (CW.out _).mono ?_; rintro e w3 ⟨rfl, ht⟩; have H3 := Lib.hid ht; clear ht)
          go_ret
          exact ⟨rfl, T2.out.trans H3.out⟩
    · go_wp2_with (go_at_call 10; refine (CW.out _).mono ?_; rintro e w2 ⟨rfl, ht⟩; have H2 := Lib.hid ht; clear ht)
      go_ret
      exact ⟨rfl, H1.out.2.trans H2.out⟩
  · have hgt : decide ((l.length : Int) < 2) = true := decide_eq_true (by omega)
    go_upto_if 26 with (go_at_call 9; refine C9.out.mono ?_; rintro e w1 ⟨⟨(_ | _), rfl, hg⟩, ht⟩ <;> have H1 := Lib.hid (And.intro hg ht) <;> clear hg ht)
    · go_wp2_with (go_at_call 10; refine (CW.out _).mono ?_; rintro e w2 ⟨rfl, ht⟩; have H2 := Lib.hid ht; clear ht)
      go_ret
      exact ⟨rfl, H1.out.2.trans H2.out⟩
    · go_wp2_with (go_at_call 10; refine (CW.out _).mono ?_; rintro e w2 ⟨rfl, ht⟩; have H2 := Lib.hid ht; clear ht)
      go_ret
      exact ⟨rfl, H1.out.2.trans H2.out⟩
end Go.Proofs.Ytllppkfeiifklaa
