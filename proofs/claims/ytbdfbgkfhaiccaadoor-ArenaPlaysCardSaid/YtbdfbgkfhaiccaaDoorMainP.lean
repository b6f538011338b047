/-
  ArenaPlays, walked.
-/
import Derived.Test.YtbdfbgkfhaiccaaDoorMainS
import Derived.Test.YtbdfbgkfhaiccaaDoorWAwake
import Derived.Test.YtbdfbgkfhaiccaaDoorHeldB
namespace Go.Proofs.YtbdfbgkfhaiccaaDoor
open Go.RowKit Go.Maps
set_option linter.unusedVariables false

set_option maxRecDepth 100000 in
set_option maxHeartbeats 8000000 in
theorem plays_P (m : Nat) (len cap0 : Nat) (A0 : Option Addr) (nb : Bool) (w : World) (hm1 : 1 ≤ m) (hm2 : m ≤ 4096) (hl : len ≤ 9223372036854775807) (ha : Hid (Acts w A0 len)) (hT : Hid (Tab w)) :
    Calls Tryd.prog 4 #[.int .i64 (m : Int), .slice A0 len cap0, .bool nb] w fun e w' => e = .returned (.bool true) ∧ Below w.heap.size w w' := by
  have AW := Lib.hid (awake_any w hT.out)
  go_enter Tryd.func4, Tryd.ntmps4
  go_wp2_with fail
  refine AW.out.mono ?_
  rintro e w1 ⟨rfl, ht1⟩
  have HA1 := Lib.hid (ha.out.turn ht1)
  have GR := Lib.hid (great_any len cap0 A0 w1 hl HA1)
  have H1 := Lib.hid ht1
  have HT1 := Lib.hid (hT.out.turn ht1 (fun h => h) hT.out.pos)
  clear ht1 AW ha hT
  go_wp2_with fail
  refine GR.out.mono ?_
  rintro e w' ⟨b, rfl, hb, rfl⟩
  cases b
  case true =>
    go_wp2_with fail
    go_ret
    exact ⟨rfl, H1.out.below (Nat.le_refl _) (fun _ _ h => h)⟩
  case false =>
    have hlen : len ≤ 200 := hb rfl
    clear hb GR
    have NP := Lib.hid (newPool_any m w1 hm1 hm2)
    go_wp2_with fail
    refine NP.out.mono ?_
    rintro e w2 ⟨pb, gb, fb, rfl, hp2, ht2, l1, l2, l3⟩
    have H2 := Lib.hid (And.intro hp2 ht2)
    have DN := Lib.hid (dnew_any m w2 hm1 hm2)
    clear hp2 ht2 NP
    go_wp2_with fail
    refine DN.out.mono ?_
    rintro e w3 ⟨qb, lb, cap, rfl, hd3, ht3, l4, l5⟩
    have H3 := Lib.hid (And.intro hd3 ht3)
    clear hd3 ht3 DN
    have NA := Lib.hid (newS (some ⟨pb, 0, none⟩) w3)
    go_wp2_with fail
    refine NA.out.mono ?_
    rintro e w4 ⟨rfl, ha4, ht4⟩
    have H4 := Lib.hid (And.intro ha4 ht4)
    have NB := Lib.hid (newT (some ⟨pb, 0, none⟩) w4)
    clear ha4 ht4 NA
    go_wp2_with fail
    refine NB.out.mono ?_
    rintro e w5 ⟨rfl, hb5, ht5⟩
    have H5 := Lib.hid (And.intro hb5 ht5)
    have NC := Lib.hid (newS (some ⟨pb, 0, none⟩) w5)
    clear hb5 ht5 NB
    go_wp2_with fail
    refine NC.out.mono ?_
    rintro e w6 ⟨rfl, hc6, ht6⟩
    have H6 := Lib.hid (And.intro hc6 ht6)
    clear hc6 ht6 NC
    obtain ⟨ab, mb, ⟨e1, e2, e3⟩, hs0⟩ := WS.start H2.out H3.out l2 l3 l5 H4.out H5.out H6.out
    have HS := Lib.hid hs0
    rw [e1, e2, e3] at HS
    clear hs0 H2 H3 H4 H5 H6 l1 l2 l3 l4 l5
    go_wp2_with fail
    generalize (w6.alloc (.cells #[.pointer (some ⟨pb, 0, none⟩), .pointer (some ⟨ab 1, 0, none⟩), .pointer (some ⟨ab 3, 0, none⟩), .pointer (some ⟨ab 2, 0, none⟩), .pointer (some ⟨qb, 0, none⟩), .slice none 0 0] 60)) = w7 at HS ⊢
    generalize w6.heap.size = xb at HS ⊢
    clear e1 e2 e3
    have HI := Lib.hid (WS.doesI (w0 := w1) (xb := xb) (pb := pb) (gb := gb) (fb := fb) (ab := ab) (mb := mb) (qb := qb) (lb := lb) (cap := cap) HT1.out hm2)
    have HM := Lib.hid (WS.mainI (w0 := w1) (xb := xb) (pb := pb) (gb := gb) (fb := fb) (ab := ab) (mb := mb) (qb := qb) (lb := lb) (cap := cap) hm2)
    go_loopw [12] (fun iv wr => ∃ (k : Nat) (vt : Value) (L : List Sl) (hs : List (Nat × Nat)), k ≤ len ∧ iv = .int .i64 (k : Int) ∧ hs.length ≤ k ∧ Hid (WS w1 wr m xb pb gb fb ab mb qb lb cap vt L hs)) (fun iv _ => len - (intOf iv).toNat)
    case atStart => exact ⟨0, _, _, _, Nat.zero_le _, rfl, Nat.le_refl _, HS⟩
    case round =>
      obtain ⟨k, vt, L, hs, hk, rfl, hle, hst⟩ := hrel
      clear HS
      by_cases hlt : k < len
      · have hkl : (k : Int) < (len : Int) := by omega
        have hk0 : (0 : Int) ≤ (k : Int) := by omega
        obtain ⟨la, lo, hA, hlb, d, inn, X, hz, hg, ago, hact⟩ := HA1.out k hlt
        subst hA
        have ab3 := hact.b3
        have act := Lib.hid hact
        have KA : Hid (∀ W vt L hs, (WS w1 W m xb pb gb fb ab mb qb lb cap vt L hs) → (W.cell? ⟨la, lo + k * 6, none⟩ = some (.int .i64 d) ∧ W.cell? ⟨la, lo + k * 6 + 1, none⟩ = some (.int .u8 (inn : Int)) ∧ W.cell? ⟨la, lo + k * 6 + 2, none⟩ = some (.string X) ∧ W.cell? ⟨la, lo + k * 6 + 3, none⟩ = some (.int .i64 hz) ∧ W.cell? ⟨la, lo + k * 6 + 4, none⟩ = some (.int .u64 (hg : Int)) ∧ W.cell? ⟨la, lo + k * 6 + 5, none⟩ = some (.int .u8 (ago : Int)) ∧ W.cell? ⟨qb, 0, none⟩ = some (.slice (some ⟨lb, 0, none⟩) m cap))) := Lib.hid fun W vt L hs h => by
          have a := act.out.turn (HI.out.old h) hlb
          exact ⟨a.c0, a.c1, a.c2, a.c3, a.c4, a.c5, (by obtain ⟨G, fr, MM, nn, ff, h⟩ := h; have := h.doc.head; rwa [h.pv.ll] at this)⟩
        have DO : Hid (∀ W, Turn (fun _ => False) wr W → Calls Tryd.prog 25 #[.pointer (some ⟨xb, 0, none⟩), .agg #[.int .i64 d, .int .u8 (inn : Int), .string X, .int .i64 hz, .int .u64 (hg : Int), .int .u8 (ago : Int)]] W fun e w' => e = .returned (.bool true) ∧ ∃ vt' L' hs', (WS w1 w' m xb pb gb fb ab mb qb lb cap vt' L' hs') ∧ hs'.length ≤ hs.length + 1) :=
          Lib.hid fun W t => does_any HI.out (HI.out.same hst.out t) d inn X hz hg ago ⟨ab3.1, by omega⟩ hact.b4 hact.b1 hact.b5 (by omega)
        have hS0 := KA.out _ _ _ _ (HI.out.same hst.out ((Turn.refl (fun _ => False) wr).drew))
        have TT : ∀ (v : World) (n : Nat), Turn (fun _ => False) v (v.drewN n) := fun v n => (Turn.refl (fun _ => False) v).drewN n
        clear hact ab3
        go_upto_region 13 with (fail)
        go_cut [118] (fun bv wx => bv = .bool false ∧ ∃ (vt : Value) (L : List Sl) (hs : List (Nat × Nat)), hs.length ≤ k + 1 ∧ Hid (WS w1 wx m xb pb gb fb ab mb qb lb cap vt L hs))
        case first =>
          go_region_held3 (fun W => W.cell? ⟨la, lo + k * 6, none⟩ = some (.int .i64 d) ∧ W.cell? ⟨la, lo + k * 6 + 1, none⟩ = some (.int .u8 (inn : Int)) ∧ W.cell? ⟨la, lo + k * 6 + 2, none⟩ = some (.string X) ∧ W.cell? ⟨la, lo + k * 6 + 3, none⟩ = some (.int .i64 hz) ∧ W.cell? ⟨la, lo + k * 6 + 4, none⟩ = some (.int .u64 (hg : Int)) ∧ W.cell? ⟨la, lo + k * 6 + 5, none⟩ = some (.int .u8 (ago : Int)) ∧ W.cell? ⟨qb, 0, none⟩ = some (.slice (some ⟨lb, 0, none⟩) m cap)) (first | exact hS0 | exact KA.out _ _ _ _ h5.out | exact KA.out _ _ _ _ (HI.out.same h5.out (TT _ _)) | exact KA.out _ _ _ _ (HI.out.same (HI.out.same h5.out (TT _ _)) (TT _ _))) (first
            | (go_at_call 25; refine (DO.out _ ((Turn.refl _ _).drew)).mono ?_; rintro e w5' ⟨rfl, vt5, L5, hs5, h5, hle5⟩; have Hl5 := Lib.hid hle5; clear hle5; obtain ⟨f, hf⟩ : ∃ f, f = fr0 L5 := ⟨_, rfl⟩; have hfn := (HM.out.len h5).2.1; have hnn := (HM.out.len h5).2.2; rw [← hf] at hfn; have ws := (IntKind.wrap_i64 ((m : Int) - (f : Int))).trans (by omega : _ = (m : Int) - (f : Int)); have C13 : Hid (∀ W, Turn (fun _ => False) w5' W → Calls Tryd.prog 13 #[.pointer (some ⟨pb, 0, none⟩)] W fun e w' => e = .returned (.int .i64 (f : Int)) ∧ w' = W) := (by rw [hf]; exact Lib.hid fun W t => HM.out.free (HI.out.same h5 t)); have C26 : Hid (∀ W, Turn (fun _ => False) w5' W → Calls Tryd.prog 26 #[.pointer (some ⟨qb, 0, none⟩)] W fun e w' => e = .returned (.int .i64 (f : Int)) ∧ w' = W) := (by rw [hf]; exact Lib.hid fun W t => HM.out.dfree (HI.out.same h5 t)); have C21 : Hid (∀ W, Turn (fun _ => False) w5' W → Calls Tryd.prog 21 #[.pointer (some ⟨pb, 0, none⟩), .int .i64 hz] W fun e w' => e = .returned (.bool (true && decide (hz ≤ (f : Int)))) ∧ w' = W) := (by rw [hf]; exact Lib.hid fun W t => HM.out.room (HI.out.same h5 t) hz); have C14 : Hid (∀ W, Turn (fun _ => False) w5' W → Calls Tryd.prog 14 #[.pointer (some ⟨pb, 0, none⟩)] W fun e w' => e = .returned (.int .i64 ((m : Int) - (f : Int))) ∧ ∃ j, w' = W.drewN j) := (by rw [hf]; exact Lib.hid fun W t => HM.out.live rfl (HI.out.same h5 t)); replace h5 := Lib.hid h5; clear hf)
            | (go_at_call 13; refine (C13.out _ ?_).mono ?_; (first | exact Turn.refl _ _ | exact TT _ _ | exact (TT _ _).trans (TT _ _)); rintro e w6' ⟨rfl, rfl⟩)
            | (go_at_call 26; refine (C26.out _ ?_).mono ?_; (first | exact Turn.refl _ _ | exact TT _ _ | exact (TT _ _).trans (TT _ _)); rintro e w6' ⟨rfl, rfl⟩)
            | (go_at_call 14; refine (C14.out _ ?_).mono ?_; (first | exact Turn.refl _ _ | exact TT _ _ | exact (TT _ _).trans (TT _ _)); rintro e w6' ⟨rfl, jj, rfl⟩)
            | (go_at_call 21; refine (C21.out _ ?_).mono ?_; (first | exact Turn.refl _ _ | exact TT _ _ | exact (TT _ _).trans (TT _ _)); rintro e w6' ⟨rfl, rfl⟩))
          all_goals
            go_wp2_with fail
            go_meet
            case rel => exact ⟨rfl, _, _, _, by have := Hl5.out; omega, HI.out.same h5.out (by first | exact TT _ _ | exact Turn.refl _ _ | exact (TT _ _).trans (TT _ _))⟩
        case rest =>
          obtain ⟨rfl, vt6, L6, hs6, hle6, h6⟩ := hcut
          clear hst hS0 DO KA
          go_wp2_with fail
          go_loopw [13] (fun iv wz => ∃ i : Nat, 1 ≤ i ∧ i ≤ 4 ∧ iv = .int .i64 (i : Int) ∧ Hid (WS w1 wz m xb pb gb fb ab mb qb lb cap vt6 L6 hs6)) (fun iv _ => 4 - (intOf iv).toNat)
          case atStart => exact ⟨1, by omega, by omega, rfl, h6⟩
          case round =>
            obtain ⟨i, hi1, hi4, rfl, h7⟩ := hrel
            by_cases hi3 : i ≤ 3
            · have hi3' : (i : Int) ≤ 3 := by omega
              obtain ⟨ml, hml⟩ : ∃ ml, ml = (dhs L6 i m).length := ⟨_, rfl⟩
              have hmn : ml ≤ m := by rw [hml]; exact dhs_le _ _ _
              have hn4 := (HM.out.len h7.out).2.2
              have H27 := Lib.hid (HM.out.handles h7.out i hi1 hi3)
              have H28 := Lib.hid (fun W (t : Turn (fun _ => False) wr W) => HM.out.dhandles (HI.out.same h7.out t) i)
              go_wp2_with fail
              refine H27.out.mono ?_
              rintro e w8 ⟨A, cp, w9, rfl, _, hto, t8⟩
              have HT8 := Lib.hid (And.intro hto t8)
              have C28 := Lib.hid (H28.out _ t8)
              clear hto t8 H27 H28
              go_wp2_with fail
              refine C28.out.mono ?_
              rintro e w10 ⟨A2, cp2, w11, rfl, hto2, t10⟩
              have HT10 := Lib.hid (And.intro hto2 t10)
              have HML := Lib.hid hml
              rw [← hml] at HT8 HT10 ⊢
              clear hto2 t10 C28 hml
              go_wp2_with fail
              go_loopw [17] (fun kv wz => ∃ j : Nat, j ≤ ml ∧ kv = .int .i64 (j : Int) ∧ Hid (Turn (fun _ => False) w10 wz)) (fun kv _ => ml - (intOf kv).toNat)
              case atStart => exact ⟨0, Nat.zero_le _, rfl, Turn.refl _ _⟩
              case round =>
                obtain ⟨j, hj, rfl, htz⟩ := hrel
                by_cases hjl : j < ml
                · have b1 : (j : Int) < (ml : Int) := by omega
                  have b0 : (0 : Int) ≤ (j : Int) := by omega
                  obtain ⟨p, hp⟩ : ∃ p, (dhs L6 i m)[j]? = some p := ⟨_, List.getElem?_eq_getElem (by rw [← HML.out]; exact hjl)⟩
                  obtain ⟨g1, hA1, _, l1, c10, c11, _⟩ := ((HT8.out.1.same HT10.out.2).same htz.out).at hp
                  obtain ⟨g2, hA2, _, l2, c20, c21, _⟩ := (HT10.out.1.same htz.out).at hp
                  subst hA1 hA2
                  clear hp
                  go_wp2_with fail
                  go_quiet (fail)
                  go_wp2_with fail
                  go_roundw
                  case rel => exact ⟨j + 1, by omega, by go_num, htz.out.drewN _⟩
                  case measure => simp [intOf]; omega
                · have b1 : ¬ (j : Int) < (ml : Int) := by omega
                  have hfin : Hid (WS w1 wr m xb pb gb fb ab mb qb lb cap vt6 L6 hs6) := Lib.hid (HI.out.same h7.out ((HT8.out.2.trans HT10.out.2).trans htz.out))
                  clear HT8 HT10 HML htz
                  go_wp2_with fail
                  go_roundw
                  case rel => exact ⟨i + 1, by omega, by omega, by go_num, hfin⟩
                  case measure => simp [intOf]; omega
            · have hi3' : ¬ (i : Int) ≤ 3 := by omega
              go_wp2_with fail
              go_roundw
              case rel => exact ⟨k + 1, vt6, L6, hs6, by omega, by go_num, hle6, h7⟩
              case measure => simp [intOf]; omega
      · have hkl : ¬ (k : Int) < (len : Int) := by omega
        have hold := Lib.hid (HI.out.old hst.out)
        clear hst
        cases nb
        · go_wp2_with fail
          go_ret
          exact ⟨rfl, (H1.out.trans hold.out).below (Nat.le_refl _) (fun _ _ h => h)⟩
        · go_wp2_with fail
          go_loopw [19] (fun iv wz => ∃ j : Nat, j ≤ len ∧ iv = .int .i64 (j : Int) ∧ Hid (Turn (fun _ => False) w1 wz)) (fun iv _ => len - (intOf iv).toNat)
          case atStart => exact ⟨0, Nat.zero_le _, rfl, hold⟩
          case round =>
            obtain ⟨j, hj, rfl, htz⟩ := hrel
            clear hold
            by_cases hjl : j < len
            · have b1 : (j : Int) < (len : Int) := by omega
              have b0 : (0 : Int) ≤ (j : Int) := by omega
              obtain ⟨la, lo, hA, hlb, d, inn, X, hz, hg, ago, hact⟩ := HA1.out j hjl
              subst hA
              have a := hact.turn htz.out hlb
              have a2 := a.c2
              have a3 := a.c3
              have a4 := a.c4
              have ll : la < wr.heap.size := Nat.lt_of_lt_of_le hlb htz.out.size
              have C11 := Lib.hid (allocS_nil X wr)
              clear a hact hlb
              go_wp2_with fail
              refine C11.out.mono ?_
              rintro e w8 ⟨rfl, t8⟩
              have d3 := cell_keepT t8 ll a3
              have d4 := cell_keepT t8 ll a4
              have ll8 : la < w8.heap.size := Nat.lt_of_lt_of_le ll t8.size
              have HT8 := Lib.hid (htz.out.trans t8)
              clear t8 C11 a2 a3 a4 ll
              go_wp2_with fail
              have t9 : Turn (fun _ => False) w8 (w8.alloc (.cells #[.int .i64 0, .int .u64 0] 32)) := (Turn.refl _ w8).alloc _
              have n9 := At.new w8 (.cells #[.int .i64 0, .int .u64 0] 32)
              have C15 := Lib.hid (getS_nil hz (hg : Int) (w8.alloc (.cells #[.int .i64 0, .int .u64 0] 32)))
              have H9 := Lib.hid (And.intro t9 n9)
              clear t9 n9
              refine C15.out.mono ?_
              rintro e w9 ⟨rfl, t10⟩
              have f3 := cell_keepT (H9.out.1.trans t10) ll8 d3
              have f4 := cell_keepT (H9.out.1.trans t10) ll8 d4
              have ll9 : la < w9.heap.size := Nat.lt_of_lt_of_le ll8 (H9.out.1.trans t10).size
              have m9 := H9.out.2.turn t10 (fun h => h)
              have m90 := m9.cell 0
              have m91 := m9.cell 1
              have lm9 := m9.lt
              simp at m90 m91
              have HT9 := Lib.hid (HT8.out.trans (H9.out.1.trans t10))
              have C17 := Lib.hid (relS_nil hz (hg : Int) w9)
              clear t10 m9 H9 HT8 C15 d3 d4 ll8
              go_wp2_with fail
              refine C17.out.mono ?_
              rintro e w11 ⟨rfl, t11⟩
              have HF := Lib.hid (HT9.out.trans t11)
              clear t11 C17 HT9 f3 f4 m90 m91
              go_wp2_with fail
              go_roundw
              case rel => exact ⟨j + 1, by omega, by go_num, HF⟩
              case measure => simp [intOf]; omega
            · have b1 : ¬ (j : Int) < (len : Int) := by omega
              have C20 := Lib.hid (liveS_nil wr)
              have C29 := Lib.hid (handlesS_nil wr)
              go_wp2_with fail
              refine C20.out.mono ?_
              rintro e w8 ⟨rfl, hw8⟩
              subst hw8
              go_wp2_with fail
              refine C29.out.mono ?_
              rintro e w9 ⟨rfl, hw9⟩
              subst hw9
              go_wp2_with fail
              go_ret
              exact ⟨rfl, (H1.out.trans htz.out).below (Nat.le_refl _) (fun _ _ h => h)⟩
end Go.Proofs.YtbdfbgkfhaiccaaDoor
