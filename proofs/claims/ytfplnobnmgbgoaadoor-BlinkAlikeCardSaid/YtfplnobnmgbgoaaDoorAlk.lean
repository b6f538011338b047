/-
  BlinkAlike.
-/
import Derived.Test.YtfplnobnmgbgoaaDoorJ18
namespace Go.Proofs.YtfplnobnmgbgoaaDoor
open Go.RowKit Go.Lib
set_option linter.unusedVariables false
set_option maxRecDepth 20000
set_option linter.unusedSimpArgs false


theorem nx4_parts (o : Option Pr) : ∃ k v f, nx4 o = .tuple #[.string k, .string v, .bool f, .bool false] := by
  cases o with
  | none => exact ⟨_, _, _, rfl⟩
  | some p => exact ⟨_, _, _, rfl⟩
set_option maxRecDepth 100000 in
set_option maxHeartbeats 8000000 in
theorem alike_any (L : List Ac) (key : ByteArray) (aft : Bool) (A : Option Addr) (c : Nat) (w : World) (h : Row w A (acs L)) (hn : L.length ≤ 9223372036854775807) (hf : ∀ a ∈ L, Fit a.k ∧ Fit a.v) (fk : Fit key) (hT : Tab w) :
    Calls Tryd.prog 5 #[.slice A L.length c, .string key, .bool aft] w fun e w' => e = .returned (.bool true) ∧ Turn No w w' := by
  have CA := Lib.hid (awake_any w hT)
  have HR := Lib.hid (And.intro h (And.intro hn (And.intro hf (And.intro fk hT))))
  have TT : Hid (∀ W, Turn No w W → Tab W) := Lib.hid fun W t => hT.turn t (fun h => h) hT.pos
  clear h hn hf fk hT
  go_enter Tryd.func5, Tryd.ntmps5
  go_wp2_with (go_at_call 6; (with_reducible refine CA.out.mono ?_); rintro e w1 ⟨rfl, h1⟩; have H1 := Lib.hid h1; have CG := Lib.hid (great_any L A c w1 (HR.out.1.no h1) HR.out.2.1 HR.out.2.2.1); clear h1)
  refine CG.out.mono ?_
  rintro e w2 ⟨⟨(_ | _), rfl, hb, h2⟩⟩
  case false =>
    have hsm := hb rfl
    by_cases hk : key.size ≤ 2000
    · have q1 : ¬ (2000 : Int) < (key.size : Int) := by omega
      have H2 := Lib.hid (And.intro (H1.out.trans h2) (And.intro hsm hk))
      have CM := Lib.hid (made_any L A c w2 (HR.out.1.no H2.out.1) (TT.out _ H2.out.1) hsm)
      clear hsm hk h2 hb CG CA H1
      go_wp2_with fail
      refine CM.out.mono ?_
      rintro e w3 ⟨⟨I, T, rfl, k1, k2, k3⟩⟩
      have HF : Hid (∃ F, flatT T = F ∧ F.length ≤ 300 ∧ (∀ p ∈ F, p.k.size ≤ 40000 ∧ p.v.size ≤ 40000) ∧ Asc F) := Lib.hid ⟨_, rfl, by rw [k2]; exact (doneL_sm H2.out.2.1).1, by rw [k2]; exact (doneL_sm H2.out.2.1).2, k1.asc⟩
      obtain ⟨F, hF, hF1, hF2, hF3⟩ := HF.out
      have CL := Lib.hid (tq_all k1)
      rw [hF] at CL
      have H3 := Lib.hid (And.intro k1 (And.intro hF (And.intro hF2 (And.intro hF3 (H2.out.1.trans k3)))))
      have HFL := Lib.hid hF1
      clear k1 k2 k3 HF hF hF1 hF2 hF3 CM
      go_wp2_with fail
      refine CL.out.mono ?_
      rintro e w4 ⟨B, c4, rfl, hP⟩
      have H4 := Lib.hid hP
      clear hP CL
      have hw1 : wrap64 ((F.length : Int) - 1) = (F.length : Int) - 1 := by have := HFL.out; simp only [wrap64]; omega
      go_wp2_with fail
      rw [hw1]
      clear hw1
      go_loopw [11, 12] (fun y x wr => ∃ (j : Nat) (B2 : Option Addr) (c2 : Nat), j ≤ F.length ∧ y = .slice B2 (backL (F.drop j)).length c2 ∧ x = .int .i64 ((j : Int) - 1) ∧ Hid (Arw w4 wr (backL (F.drop j)) B2 c2)) (fun y x _ => (RowKit.intOf x + 1).toNat)
      case atStart => exact ⟨F.length, none, 0, Nat.le_refl _, by simp [backL], rfl, Lib.hid (by have := Arw.nil w4; simpa [backL] using this)⟩
      case round =>
        obtain ⟨j, B2, c2, hj, rfl, rfl, HI⟩ := hrel
        have HFj : Hid (F.length ≤ 300) := HFL
        by_cases hj0 : 0 < j
        · obtain ⟨m, rfl⟩ : ∃ m, j = m + 1 := ⟨j - 1, by omega⟩
          obtain ⟨p, hp⟩ : ∃ t, F[m]? = some t := ⟨F[m], List.getElem?_eq_getElem (by omega)⟩
          obtain ⟨b, o, hA, hc⟩ := pcs_get2 (row_of_own H4.out.row) hp
          obtain ⟨x1, x2⟩ := hc wr HI.out.tu
          have HS0 := Lib.hid hc
          have hlen : (backL (F.drop (m + 1))).length < 100000 := by unfold backL; rw [List.length_map, List.length_reverse, List.length_drop]; have := HFj.out; omega
          have hnx := backL_next hp
          have HAP := Lib.hid fun W (t : Turn No wr W) => (HI.out.no t).append hlen (ofP p)
          rw [← hnx] at HAP
          have hl2 : (backL (F.drop m)).length = (backL (F.drop (m + 1))).length + 1 := by rw [hnx]; simp
          obtain ⟨B7, c7, w7, q0, h7⟩ := HAP.out wr.drew (Turn.refl No _).drew
          obtain ⟨n1, hn1⟩ : ∃ x, (backL (F.drop (m + 1))).length = x := ⟨_, rfl⟩
          rw [hn1] at q0 hl2 ⊢
          obtain ⟨k, v⟩ := p
          simp only [ofP] at q0 x1 x2 HS0
          have q : AppRun 48 48 (.slice B2 n1 c2) (.slice (some ⟨wr.heap.size, 0, none⟩) 1 1) (.slice B7 (n1 + 1) c7) (wr.alloc (.cells #[.int .i64 0, .string k, .string v, .bool false] 51)).drew w7 := q0
          have H7 := Lib.hid (And.intro h7 hl2)
          have q1 : (0 : Int) ≤ (m : Int) := by omega
          have q2 : (m : Int) < (F.length : Int) := by omega
          have q3 : ((m + 1 : Nat) : Int) - 1 = (m : Int) := by omega
          have HJ : Hid (m ≤ F.length) := Lib.hid (by omega)
          subst hA
          rw [q3]
          clear q0 h7 hl2 hn1 hnx hlen hp hc hj hj0 q3 HAP
          have hw : wrap64 ((m : Int) - 1) = (m : Int) - 1 := by have := HFj.out; have := HJ.out; simp only [wrap64]; omega
          go_upto_region 13 with fail
          go_region_law ((refine step_append_run (by rfl) _ _ 48 (by rfl) _ _ _ (by rfl) (by rfl) q ?_))
          all_goals go_wp2_with fail
          all_goals rw [hw]
          all_goals exact ⟨⟨m, B7, c7, HJ.out, by rw [H7.out.2], rfl, Lib.hid H7.out.1⟩, by simp [RowKit.intOf]⟩
        · obtain rfl : j = 0 := by omega
          have HI2 : Hid (Arw w4 wr (backL F) B2 c2) := Lib.hid (by have := HI.out; rwa [List.drop_zero] at this)
          rw [List.drop_zero]
          have t4 := H3.out.2.2.2.2.trans H4.out.tu
          have CM := Lib.hid (made_any (backL F) B2 c2 wr (row_of_own HI2.out.row) (TT.out _ (t4.trans HI2.out.tu)) (backL_sm ⟨HFj.out, H3.out.2.2.1⟩))
          have H5 := Lib.hid (t4.trans HI2.out.tu)
          clear t4 hj hj0 HI
          have q9 : ¬ (0 : Int) ≤ ((0 : Nat) : Int) - 1 := by omega
          go_wp2_with fail
          refine CM.out.mono ?_
          rintro e w6 ⟨⟨J, U, rfl, k1, k2, k3⟩⟩
          rw [backL_done H3.out.2.2.2.1] at k2
          have KA : Hid (Tq w6 I T 4096) := Lib.hid (H3.out.1.no ((H4.out.tu.trans HI2.out.tu).trans k3))
          have KB := Lib.hid k1
          have HP6 : Hid (Row w6 B (pcs F)) := Lib.hid (((row_of_own H4.out.row).no HI2.out.tu).no k3)
          have H6 := Lib.hid (H5.out.trans k3)
          have fk := HR.out.2.2.2.1
          have hkk := H2.out.2.2
          have GA := Lib.hid fun W (t : Turn No w6 W) => tq_get (KA.out.no t) key fk
          have GB := Lib.hid fun W (t : Turn No w6 W) => tq_get (KB.out.no t) key fk
          have NA := Lib.hid fun W (t : Turn No w6 W) => tq_next (KA.out.no t) key aft (by omega)
          have NB := Lib.hid fun W (t : Turn No w6 W) => tq_next (KB.out.no t) key aft (by omega)
          have AB := Lib.hid fun W (t : Turn No w6 W) => tq_all (KB.out.no t)
          have LA := Lib.hid fun W (t : Turn No w6 W) => tq_len (KA.out.no t)
          have LB := Lib.hid fun W (t : Turn No w6 W) => tq_len (KB.out.no t)
          have XA := Lib.hid fun W (t : Turn No w6 W) => tq_check (KA.out.no t)
          have XB := Lib.hid fun W (t : Turn No w6 W) => tq_check (KB.out.no t)
          have hFT := H3.out.2.1
          rw [hFT] at GA NA LA
          rw [k2] at GB NB AB LB
          obtain ⟨gv, hgv⟩ : ∃ x, (getL F key).getD ⟨#[]⟩ = x := ⟨_, rfl⟩
          obtain ⟨gs, hgs⟩ : ∃ x, (getL F key).isSome = x := ⟨_, rfl⟩
          obtain ⟨nk, nv, nf, hnx⟩ := nx4_parts (nxR F key aft)
          rw [hgv, hgs] at GA GB
          rw [hnx] at NA NB
          have PS := Lib.hid fun (c : Nat) W B3 c3 (t : Turn No w6 W) (h : Row W B3 (pcs F)) => pairs_same F B B3 c c3 W (HP6.out.no t) h (by have := HFj.out; omega)
          have e1 := bytes_beq gv gv
          have e2 := bytes_beq nk nk
          have e3 := bytes_beq nv nv
          rw [decide_eq_true rfl] at e1 e2 e3
          clear k1 k2 k3 hFT hgv hgs hnx fk hkk CM q9
          have T0 := Lib.hid (Turn.refl No w6)
          go_wp2_with (first
            | (go_at_call 11; (first | (with_reducible refine (GA.out _ T0.out).mono ?_) | (with_reducible refine (GB.out _ T0.out).mono ?_)); rintro e wx ⟨rfl, hx⟩; replace T0 := Lib.hid (T0.out.trans hx); clear hx)
            | (go_at_call 14; (first | (with_reducible refine (NA.out _ T0.out).mono ?_) | (with_reducible refine (NB.out _ T0.out).mono ?_)); rintro e wx ⟨rfl, hx⟩; replace T0 := Lib.hid (T0.out.trans hx); clear hx)
            | (go_at_call 26; (with_reducible refine (AB.out _ T0.out).mono ?_); rintro e wx ⟨B3, c3, rfl, hx⟩; have HP3 := Lib.hid (row_of_own hx.row); replace T0 := Lib.hid (T0.out.trans hx.tu); clear hx)
            | (go_at_call 27; (with_reducible refine (PS.out _ _ _ _ T0.out HP3.out).mono ?_); rintro e wx ⟨rfl, hx⟩; replace T0 := Lib.hid (T0.out.trans hx); clear hx)
            | (go_at_call 22; (first | (with_reducible refine (LA.out _ T0.out).mono ?_) | (with_reducible refine (LB.out _ T0.out).mono ?_)); rintro e wx ⟨rfl, hx⟩; replace T0 := Lib.hid (T0.out.trans hx); clear hx)
            | (go_at_call 16; (first | (with_reducible refine (XA.out _ T0.out).mono ?_) | (with_reducible refine (XB.out _ T0.out).mono ?_)); rintro e wx ⟨rfl, hx⟩; replace T0 := Lib.hid (T0.out.trans hx); clear hx))
          go_ret
          exact ⟨rfl, H6.out.trans T0.out⟩
    · have q1 : (2000 : Int) < (key.size : Int) := by omega
      have H2 := Lib.hid (H1.out.trans h2)
      clear hsm hk h2 hb CG CA H1
      go_wp2_with fail
      go_ret
      exact ⟨rfl, H2.out⟩
  case true =>
    have H2 := Lib.hid (H1.out.trans h2)
    clear h2 hb CG CA H1
    go_wp2_with fail
    go_ret
    exact ⟨rfl, H2.out⟩
theorem alike_law (L : List Ac) (A : Option Addr) (c : Nat) (key : ByteArray) (aft : Bool) (w : World) (h : Row w A (acs L)) (hn : L.length ≤ 9223372036854775807) (hf : ∀ a ∈ L, Fit a.k ∧ Fit a.v) (fk : Fit key) (hT : Tab w) :
    Calls Tryd.prog 5 #[.slice A L.length c, .string key, .bool aft] w fun e w' => e = .returned (.bool true) ∧ Turn No w w' := alike_any L key aft A c w h hn hf fk hT
end Go.Proofs.YtfplnobnmgbgoaaDoor
