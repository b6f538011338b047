/-
  The document's rows: can a row be gone on with?
-/
import Derived.Test.YtllppkfeiifklaaWDrp
import Derived.Test.YtllppkfeiifklaaJ29
import Derived.Deep.RegionHeld
namespace Go.Proofs.Ytllppkfeiifklaa
open Go.RowKit Go.Lib
set_option linter.unusedVariables false
set_option maxRecDepth 20000
set_option linter.unusedSimpArgs false

theorem all_take {Q : Int → Prop} {I : List Int} {k : Nat} {id : Int} (h : I[k]? = some id) : (∀ a ∈ I.take (k + 1), Q a) ↔ (∀ a ∈ I.take k, Q a) ∧ Q id := by
  rw [List.take_add_one, h]
  constructor
  · intro h1
    exact ⟨fun a ha => h1 a (List.mem_append.2 (.inl ha)), h1 id (by simp)⟩
  · rintro ⟨h1, h2⟩ a ha
    rcases List.mem_append.1 ha with h3 | h3
    · exact h1 a h3
    · simp at h3
      subst h3
      exact h2
theorem ics_hold {w : World} {A : Option Addr} {I : List Int} (h : Row w A (ics I)) {j : Nat} {i : Int} (hj : I[j]? = some i) : ∃ b o, A = some ⟨b, o, none⟩ ∧ ∀ W, Turn No w W → W.cell? ⟨b, o + j, none⟩ = some (.int .i64 i) := by
  obtain ⟨b, o, hA, hc⟩ := ics_get h hj
  refine ⟨b, o, hA, fun W t => ?_⟩
  obtain ⟨b2, o2, hA2, hc2⟩ := ics_get (h.no t) hj
  rw [hA] at hA2
  injection hA2 with hA2
  injection hA2 with e1 e2
  subst e1 e2
  exact hc2
def RowsI (l : List Ev) (ps : List (List Wr)) (B : Option Addr) (cap2 : Nat) (I : List Int) (Bi : Option Addr) (ci : Nat) (N : Nat) : Prop := ∀ (R M : List Pr) (A : Option Addr) (cap : Nat) (row : List Int) (Br : Option Addr) (cr : Nat) (w : World), cntL I row ≤ N → InE w B cap2 l ps → Row w Bi (ics I) → w.ownsRow 0 47 2 (.slice A R.length cap) R.length (pcs R) → Sim R M → Asc M → FitL M → M.length + 41 * N ≤ 20000 → Row w Br (ics row) → row.length + N ≤ 1000 →
    Calls Try.prog 49 #[.agg #[.slice A R.length cap], .slice B l.length cap2, .slice Bi I.length ci, .slice Br row.length cr] w fun e w' => RRes l ps I M row w e w'
set_option maxRecDepth 100000 in
set_option maxHeartbeats 32000000 in
theorem rows_step {l : List Ev} {ps : List (List Wr)} {B : Option Addr} {cap2 : Nat} {I : List Int} {Bi : Option Addr} {ci : Nat} (hI7 : I.length ≤ 7) (N : Nat) (HIH : Hid (∀ N2, N2 < N → RowsI l ps B cap2 I Bi ci N2)) : RowsI l ps B cap2 I Bi ci N := by
    intro R M A cap row Br cr w hN hE hI hR hs ha hf hM hrow hrl
    have hll : l.length ≤ 200 := hE.few.len
    have hrn : row.length ≤ 1000 := by omega
    have HM := Lib.hid (And.intro hs (And.intro ha (And.intro hf (And.intro hM (And.intro hrl hN)))))
    have HFE := Lib.hid (And.intro hE.few hE.rws.len)
    have t1 : Turn No w (w.alloc (.cells #[.slice A R.length cap] 60)) := (Turn.refl _ _).alloc _
    have HC : Hid (At (w.alloc (.cells #[.slice A R.length cap] 60)) w.heap.size (.cells #[.slice A R.length cap] 60 (0, 0)) ∧ (InE (w.alloc (.cells #[.slice A R.length cap] 60)) B cap2 l ps ∧ Row (w.alloc (.cells #[.slice A R.length cap] 60)) Bi (ics I) ∧ (w.alloc (.cells #[.slice A R.length cap] 60)).ownsRow 0 47 2 (.slice A R.length cap) R.length (pcs R) ∧ Row (w.alloc (.cells #[.slice A R.length cap] 60)) Br (ics row)) ∧ Turn No w (w.alloc (.cells #[.slice A R.length cap] 60))) := Lib.hid ⟨At.new _ _, ⟨hE.no t1, hI.no t1, own_grown hR t1 (fun _ _ h => h), hrow.no t1⟩, t1⟩
    clear t1 hE hI hR hs ha hf hM hrow hrl hN
    go_enter Try.func49, Try.ntmps49
    go_upto_region 1 with fail
    generalize w.alloc (.cells #[.slice A R.length cap] 60) = w1 at HC ⊢
    generalize w.heap.size = g4 at HC ⊢
    have C35 := Lib.hid fun (W : World) (t : Turn No w1 W) (id : Int) => refstate_any id l ps B cap2 W (HC.out.2.1.1.no t).row (HC.out.2.1.1.no t).rws (by omega)
    have C85 := Lib.hid fun (W : World) (t : Turn No w1 W) (n : Int) => in_any row Br cr n W (HC.out.2.1.2.2.2.no t) (by omega)
    have C86 := Lib.hid fun (W : World) (t : Turn No w1 W) (a b : Int) => refahead_any a b l B cap2 W (HC.out.2.1.1.no t).row (by omega)
    go_wp2_with fail
    go_loopw [9, 10] (fun s x wr => ∃ (k : Nat) (b : Bool), k ≤ I.length ∧ x = .int .i64 (k : Int) ∧ s = .bool b ∧ Hid (Turn No w1 wr ∧ (b = true ↔ ∀ a ∈ I.take k, ¬ stN l a = 3 ∨ a ∈ row))) (fun _ x _ => I.length - (RowKit.intOf x).toNat)
    case atStart => exact ⟨0, true, Nat.zero_le _, rfl, rfl, Lib.hid ⟨Turn.refl _ _, by simp⟩⟩
    case round =>
      obtain ⟨k, b, hk, rfl, rfl, HP⟩ := hrel
      by_cases hlt : k < I.length
      · obtain ⟨id, hid⟩ : ∃ t, I[k]? = some t := ⟨I[k], List.getElem?_eq_getElem hlt⟩
        obtain ⟨bi, fi, hA, hx⟩ := ics_hold (HC.out.2.1.2.1.no HP.out.1) hid
        have x0 := hx wr (Turn.refl _ _)
        have HX := Lib.hid hx
        have HQ := Lib.hid (all_take (Q := fun a => ¬ stN l a = 3 ∨ a ∈ row) hid)
        have C35w := Lib.hid (C35.out wr HP.out.1 id)
        have hsn3 := stN_le l id
        obtain ⟨sa, hsa⟩ : ∃ a, stA l id = a := ⟨_, rfl⟩
        obtain ⟨sn, hsn⟩ : ∃ a, stN l id = a := ⟨_, rfl⟩
        rw [hsa, hsn] at C35w
        rw [hsn] at HQ hsn3
        obtain ⟨code, found, ak, av⟩ := sa
        subst hA
        clear hid hsa hsn hx
        have hq1 : (0 : Int) ≤ (k : Int) := by omega
        have hq2 : (k : Int) < (I.length : Int) := by omega
        go_upto_region 6 with (go_at_call 35; (with_reducible refine C35w.out.mono ?_); rintro e2 w5 ⟨⟨ok, kk, v, ov, had, aft, A1, len1, c1⟩, rfl, ht, _, _⟩; have H5 := Lib.hid ht; clear ht; simp only [Opx.valH, Ans.valH])
        have H6 : Hid (Turn No wr ((w5.alloc (.cells #[.int .u8 ok, .string kk, .string v, .string ov, .bool had, .bool aft, .slice A1 len1 c1] 34)).alloc (.cells #[.int .i64 code, .bool found, .string ak, .string av] 38))) := Lib.hid ((H5.out.alloc _).alloc _)
        try rw [World.size_alloc]
        clear H5 C35w
        generalize (w5.alloc (.cells #[.int .u8 ok, .string kk, .string v, .string ov, .bool had, .bool aft, .slice A1 len1 c1] 34)).alloc (.cells #[.int .i64 code, .bool found, .string ak, .string av] 38) = w6 at H6 ⊢
        have x1 := HX.out w6 H6.out
        have T6 := Lib.hid (HP.out.1.trans H6.out)
        cases b with
        | false =>
          have HF : Hid (false = true ↔ ∀ a ∈ I.take (k + 1), ¬ stN l a = 3 ∨ a ∈ row) := Lib.hid (by
            rw [HQ.out, ← HP.out.2]; simp)
          go_wp2_with fail
          exact ⟨⟨k + 1, false, by omega, by go_num, rfl, Lib.hid ⟨T6.out, HF.out⟩⟩, by simp [RowKit.intOf]; omega⟩
        | true =>
          have HB1 : Hid (∀ a ∈ I.take k, ¬ stN l a = 3 ∨ a ∈ row) := Lib.hid (by first | exact HP.out.2.1 rfl | exact HP.out.2.1 trivial)
          by_cases h3 : sn < 3
          · have hd : decide (sn < 3) = true := decide_eq_true h3
            have HF : Hid (true = true ↔ ∀ a ∈ I.take (k + 1), ¬ stN l a = 3 ∨ a ∈ row) := Lib.hid ⟨fun _ => HQ.out.2 ⟨HB1.out, .inl (by omega)⟩, fun _ => rfl⟩
            go_wp2_with fail
            exact ⟨⟨k + 1, true, by omega, by go_num, rfl, Lib.hid ⟨T6.out, by simpa using HF.out⟩⟩, by simp [RowKit.intOf]; omega⟩
          · have hd : decide (sn < 3) = false := decide_eq_false h3
            have C85w := Lib.hid (C85.out w6 T6.out id)
            obtain ⟨bi2, hbi2⟩ : ∃ x, decide (id ∈ row) = x := ⟨_, rfl⟩
            have HF : Hid (bi2 = true ↔ ∀ a ∈ I.take (k + 1), ¬ stN l a = 3 ∨ a ∈ row) := Lib.hid (by
              rw [HQ.out, ← hbi2, decide_eq_true_eq]
              exact ⟨fun h => ⟨HB1.out, .inr h⟩, fun h => h.2.elim (fun h => absurd (by omega) h) fun h => h⟩)
            rw [hbi2] at C85w
            clear hbi2
            go_wp2_with (go_at_call 85; (with_reducible refine C85w.out.mono ?_); rintro e2 w7 ⟨rfl, hw⟩; replace hw := hw.symm; subst hw)
            exact ⟨⟨k + 1, bi2, by omega, by go_num, rfl, Lib.hid ⟨T6.out, HF.out⟩⟩, by simp [RowKit.intOf]; omega⟩
      · obtain rfl : k = I.length := by omega
        have HW : Hid (b = true ↔ ∀ a ∈ I, ¬ stN l a = 3 ∨ a ∈ row) := Lib.hid (by have := HP.out.2; rwa [List.take_length] at this)
        have T1 := Lib.hid HP.out.1
        clear HP
        cases b with
        | true =>
          have HD : Hid (DR l ps I M row) := Lib.hid (.done (by first | exact HW.out.1 rfl | exact HW.out.1 trivial))
          go_wp2_with fail
          go_ret
          exact RRes.of true rfl ⟨fun _ => HD.out, fun _ => rfl⟩ (HC.out.2.2.trans T1.out)
        | false =>
          have HND : Hid (¬ ∀ a ∈ I, ¬ stN l a = 3 ∨ a ∈ row) := Lib.hid fun h => by have := HW.out.2 h; cases this
          clear HW
          go_wp2_with fail
          go_loopw [14] (fun x wr => ∃ k : Nat, k ≤ I.length ∧ x = .int .i64 (k : Int) ∧ Hid (Turn No w1 wr ∧ ∀ (j : Nat) (a : Int), j < k → I[j]? = some a → ¬ StepD l ps I M row a)) (fun x _ => I.length - (RowKit.intOf x).toNat)
          case atStart => exact ⟨0, Nat.zero_le _, rfl, Lib.hid ⟨T1.out, fun j a hj => by omega⟩⟩
          case round =>
            obtain ⟨k, hk, rfl, HP⟩ := hrel
            clear T1
            by_cases hlt : k < I.length
            · obtain ⟨id, hid⟩ : ∃ t, I[k]? = some t := ⟨I[k], List.getElem?_eq_getElem hlt⟩
              obtain ⟨bi, fi, hA, hx⟩ := ics_hold (HC.out.2.1.2.1.no HP.out.1) hid
              have x0 := hx wr (Turn.refl _ _)
              have HMEM : Hid (id ∈ I) := Lib.hid (List.mem_of_getElem? hid)
              have HNX : Hid (∀ (j : Nat) (a : Int), j < k + 1 → I[j]? = some a → ¬ StepD l ps I M row id → ¬ StepD l ps I M row a) := Lib.hid fun j a hj hja hno => by
                by_cases h : j = k
                · subst h
                  rw [hid] at hja
                  injection hja with hja
                  subst hja
                  exact hno
                · exact HP.out.2 j a (by omega) hja
              have TR := Lib.hid HP.out.1
              subst hA
              clear hid hx HP
              have hq1 : (0 : Int) ≤ (k : Int) := by omega
              have hq2 : (k : Int) < (I.length : Int) := by omega
              have C85w := Lib.hid (C85.out wr TR.out id)
              by_cases hin : id ∈ row
              · rw [decide_eq_true hin] at C85w
                have HNO : Hid (¬ StepD l ps I M row id) := Lib.hid fun h => h.1 hin
                clear hin
                go_wp2_with (go_at_call 85; (with_reducible refine C85w.out.mono ?_); rintro e2 w7 ⟨rfl, hw⟩; replace hw := hw.symm; subst hw)
                exact ⟨⟨k + 1, by omega, by go_num, Lib.hid ⟨TR.out, fun j a hj ha => HNX.out j a hj ha HNO.out⟩⟩, by simp [RowKit.intOf]; omega⟩
              · rw [decide_eq_false hin] at C85w
                have HIN := Lib.hid hin
                clear hin
                go_upto_region 16 with (go_at_call 85; (with_reducible refine C85w.out.mono ?_); rintro e2 w7 ⟨rfl, hw⟩; replace hw := hw.symm; subst hw)
                clear C85w x0
                go_loopw [16, 17] (fun s x wx => ∃ (j : Nat) (b : Bool), j ≤ I.length ∧ x = .int .i64 (j : Int) ∧ s = .bool b ∧ Hid (Turn No w1 wx ∧ (b = true ↔ ∀ a ∈ I.take j, a ∈ row ∨ ahead l a id = false))) (fun _ x _ => I.length - (RowKit.intOf x).toNat)
                case atStart => exact ⟨0, true, Nat.zero_le _, rfl, rfl, Lib.hid ⟨TR.out, by simp⟩⟩
                case round =>
                  obtain ⟨j, b, hj, rfl, rfl, HJ⟩ := hrel
                  by_cases hlj : j < I.length
                  · obtain ⟨ia, hia⟩ : ∃ t, I[j]? = some t := ⟨I[j], List.getElem?_eq_getElem hlj⟩
                    obtain ⟨bj, fj, hA2, hx2⟩ := ics_hold (HC.out.2.1.2.1.no HJ.out.1) hia
                    have HQ := Lib.hid (all_take (Q := fun a => a ∈ row ∨ ahead l a id = false) hia)
                    injection hA2 with hA2
                    injection hA2 with hA2 hA3
                    subst hA2 hA3
                    have x0 := hx2 wr (Turn.refl _ _)
                    have TJ := Lib.hid HJ.out.1
                    clear hia hx2
                    have hp1 : (0 : Int) ≤ (j : Int) := by omega
                    have hp2 : (j : Int) < (I.length : Int) := by omega
                    cases b with
                    | false =>
                      have HF : Hid (false = true ↔ ∀ a ∈ I.take (j + 1), a ∈ row ∨ ahead l a id = false) := Lib.hid (by
                        rw [HQ.out, ← HJ.out.2]; simp)
                      go_wp2_with fail
                      exact ⟨⟨j + 1, false, by omega, by go_num, rfl, Lib.hid ⟨TJ.out, HF.out⟩⟩, by simp [RowKit.intOf]; omega⟩
                    | true =>
                      have HB1 : Hid (∀ a ∈ I.take j, a ∈ row ∨ ahead l a id = false) := Lib.hid (by first | exact HJ.out.2.1 rfl | exact HJ.out.2.1 trivial)
                      have C85x := Lib.hid (C85.out wr TJ.out ia)
                      have C86x := Lib.hid (C86.out wr TJ.out ia id)
                      by_cases hin2 : ia ∈ row
                      · rw [decide_eq_true hin2] at C85x
                        have HF : Hid (∀ a ∈ I.take (j + 1), a ∈ row ∨ ahead l a id = false) := Lib.hid (HQ.out.2 ⟨HB1.out, .inl hin2⟩)
                        clear hin2
                        go_wp2_with (go_at_call 85; (with_reducible refine C85x.out.mono ?_); rintro e2 w7 ⟨rfl, hw⟩; replace hw := hw.symm; subst hw)
                        exact ⟨⟨j + 1, true, by omega, by go_num, rfl, Lib.hid ⟨TJ.out, fun _ => HF.out, fun _ => rfl⟩⟩, by simp [RowKit.intOf]; omega⟩
                      · rw [decide_eq_false hin2] at C85x
                        cases hah : ahead l ia id with
                        | true =>
                          rw [hah] at C86x
                          have HF : Hid (false = true ↔ ∀ a ∈ I.take (j + 1), a ∈ row ∨ ahead l a id = false) := Lib.hid ⟨(fun h => by cases h), fun h => by
                            rcases (HQ.out.1 h).2 with h | h
                            · exact absurd h hin2
                            · rw [hah] at h; cases h⟩
                          clear hin2 hah
                          go_wp2_with (first | (go_at_call 85; (with_reducible refine C85x.out.mono ?_); rintro e2 w7 ⟨rfl, hw⟩; replace hw := hw.symm; subst hw) | (go_at_call 86; (with_reducible refine C86x.out.mono ?_); rintro e2 w7 ⟨rfl, hw⟩; replace hw := hw.symm; subst hw))
                          exact ⟨⟨j + 1, false, by omega, by go_num, rfl, Lib.hid ⟨TJ.out, HF.out⟩⟩, by simp [RowKit.intOf]; omega⟩
                        | false =>
                          rw [hah] at C86x
                          have HF : Hid (∀ a ∈ I.take (j + 1), a ∈ row ∨ ahead l a id = false) := Lib.hid (HQ.out.2 ⟨HB1.out, .inr hah⟩)
                          clear hin2 hah
                          go_wp2_with (first | (go_at_call 85; (with_reducible refine C85x.out.mono ?_); rintro e2 w7 ⟨rfl, hw⟩; replace hw := hw.symm; subst hw) | (go_at_call 86; (with_reducible refine C86x.out.mono ?_); rintro e2 w7 ⟨rfl, hw⟩; replace hw := hw.symm; subst hw))
                          exact ⟨⟨j + 1, true, by omega, by go_num, rfl, Lib.hid ⟨TJ.out, fun _ => HF.out, fun _ => rfl⟩⟩, by simp [RowKit.intOf]; omega⟩
                  · obtain rfl : j = I.length := by omega
                    have HW : Hid (b = true ↔ ∀ a ∈ I, a ∈ row ∨ ahead l a id = false) := Lib.hid (by have := HJ.out.2; rwa [List.take_length] at this)
                    have T2 := Lib.hid HJ.out.1
                    clear HJ TR
                    cases b with
                    | false =>
                      have HNO : Hid (¬ StepD l ps I M row id) := Lib.hid fun h => by have := HW.out.2 h.2.1; cases this
                      go_wp2_with fail
                      exact ⟨⟨k + 1, by omega, by go_num, Lib.hid ⟨T2.out, fun j a hj ha => HNX.out j a hj ha HNO.out⟩⟩, by simp [RowKit.intOf]; omega⟩
                    | true =>
                      have HFR : Hid (∀ a ∈ I, a ∈ row ∨ ahead l a id = false) := Lib.hid (by first | exact HW.out.1 rfl | exact HW.out.1 trivial)
                      clear HW
                      have CTR : Hid (∀ (R2 M2 : List Pr) (B2 : Option Addr) (c2 : Nat) (w8 : World), Turn No w1 w8 → w8.ownsRow 0 47 2 (.slice B2 R2.length c2) R2.length (pcs R2) → Sim R2 M2 → Asc M2 → FitL M2 → M2.length ≤ M.length + 41 →
                          Hid (∀ W, Turn No w8 W → ∀ B9 c9, Row W B9 (ics (row ++ [id])) → Calls Try.prog 49 #[.agg #[.slice B2 R2.length c2], .slice B l.length cap2, .slice (some ⟨bi, fi, none⟩) I.length ci, .slice B9 (row.length + 1) c9] W fun e w' => ∃ b, e = .returned (.bool b) ∧ (b = true ↔ DR l ps I M2 (row ++ [id])) ∧ Turn No w8 w')) := Lib.hid fun R2 M2 B2 c2 w8 t8 ho q1 q2 q3 q4 => Lib.hid fun W t B9 c9 h9 => by
                        have hc := cntL_lt HIN.out HMEM.out
                        obtain ⟨m1, m2, m3, m4, m5, m6⟩ := HM.out
                        have tw := t8.trans t
                        have := HIH.out (N - 1) (by omega) R2 M2 B2 c2 (row ++ [id]) B9 c9 W (by omega) (HC.out.2.1.1.no tw) (HC.out.2.1.2.1.no tw) (own_grown ho t (fun _ _ h => h)) q1 q2 q3 (by omega) h9 (by simp; omega)
                        have el : (row ++ [id]).length = row.length + 1 := by simp
                        rw [el] at this
                        exact this.mono fun e w' h => by
                          obtain ⟨b, h1, h2, h3⟩ := h
                          exact ⟨b, h1, h2, t.trans h3⟩
                      have hin := HC.out.2.1.1.no T2.out
                      have C35w := Lib.hid (C35.out wr T2.out id)
                      have HSW := Lib.hid (stW_len hin.rws id)
                      have hsn3 := stN_le l id
                      obtain ⟨sa, hsa⟩ : ∃ a, stA l id = a := ⟨_, rfl⟩
                      obtain ⟨sn, hsn⟩ : ∃ a, stN l id = a := ⟨_, rfl⟩
                      rw [hsa, hsn] at C35w
                      rw [hsn] at hsn3
                      obtain ⟨code, found, ak, av⟩ := sa
                      have HSA := Lib.hid (And.intro hsa hsn)
                      clear hin hsa hsn
                      go_upto_region 21 with (go_at_call 35; (with_reducible refine C35w.out.mono ?_); rintro e2 w5 ⟨⟨ok, kk, v, ov, had, aft, A1, len1, c1⟩, rfl, ht, hp, hrow⟩; have H5 := Lib.hid (And.intro ht (And.intro hp hrow)); clear ht hp hrow; simp only [Opx.valH, Ans.valH])
                      have hlen1 : (stW l ps id).length = len1 := by rw [HSW.out, ← H5.out.2.1]; rfl
                      subst hlen1
                      have H6 : Hid (Turn No wr ((w5.alloc (.cells #[.int .u8 ok, .string kk, .string v, .string ov, .bool had, .bool aft, .slice A1 (stW l ps id).length c1] 34)).alloc (.cells #[.int .i64 code, .bool found, .string ak, .string av] 38)) ∧ At ((w5.alloc (.cells #[.int .u8 ok, .string kk, .string v, .string ov, .bool had, .bool aft, .slice A1 (stW l ps id).length c1] 34)).alloc (.cells #[.int .i64 code, .bool found, .string ak, .string av] 38)) w5.heap.size (.cells #[.int .u8 ok, .string kk, .string v, .string ov, .bool had, .bool aft, .slice A1 (stW l ps id).length c1] 34 (0, 0)) ∧ At ((w5.alloc (.cells #[.int .u8 ok, .string kk, .string v, .string ov, .bool had, .bool aft, .slice A1 (stW l ps id).length c1] 34)).alloc (.cells #[.int .i64 code, .bool found, .string ak, .string av] 38)) (w5.heap.size + 1) (.cells #[.int .i64 code, .bool found, .string ak, .string av] 38 (0, 0)) ∧ Row ((w5.alloc (.cells #[.int .u8 ok, .string kk, .string v, .string ov, .bool had, .bool aft, .slice A1 (stW l ps id).length c1] 34)).alloc (.cells #[.int .i64 code, .bool found, .string ak, .string av] 38)) A1 (wcs (stW l ps id))) := Lib.hid (by
                        have t2 : Turn No w5 ((w5.alloc (.cells #[.int .u8 ok, .string kk, .string v, .string ov, .bool had, .bool aft, .slice A1 (stW l ps id).length c1] 34)).alloc (.cells #[.int .i64 code, .bool found, .string ak, .string av] 38)) := ((Turn.refl _ _).alloc _).alloc _
                        have a2 := At.new (w5.alloc (.cells #[.int .u8 ok, .string kk, .string v, .string ov, .bool had, .bool aft, .slice A1 (stW l ps id).length c1] 34)) (.cells #[.int .i64 code, .bool found, .string ak, .string av] 38)
                        rw [World.size_alloc] at a2
                        exact ⟨H5.out.1.trans t2, (At.new _ _).no ((Turn.refl _ _).alloc _), a2, H5.out.2.2.no t2⟩)
                      have HOP := Lib.hid H5.out.2.1.symm
                      try rw [World.size_alloc]
                      clear H5 C35w
                      generalize (w5.alloc (.cells #[.int .u8 ok, .string kk, .string v, .string ov, .bool had, .bool aft, .slice A1 (stW l ps id).length c1] 34)).alloc (.cells #[.int .i64 code, .bool found, .string ak, .string av] 38) = w6 at H6 ⊢
                      generalize w5.heap.size + 1 = g19 at H6 ⊢
                      generalize w5.heap.size = g18 at H6 ⊢
                      have T6 := Lib.hid (T2.out.trans H6.out.1)
                      have z0 := (HC.out.1.no T6.out).cell 0
                      simp at z0
                      go_upto_region 22 with fail
                      have H7 : Hid (Turn No w1 (w6.alloc (.cells #[.slice A R.length cap] 60)) ∧ At (w6.alloc (.cells #[.slice A R.length cap] 60)) w6.heap.size (.cells #[.slice A R.length cap] 60 (0, 0)) ∧ At (w6.alloc (.cells #[.slice A R.length cap] 60)) g18 (.cells #[.int .u8 ok, .string kk, .string v, .string ov, .bool had, .bool aft, .slice A1 (stW l ps id).length c1] 34 (0, 0)) ∧ At (w6.alloc (.cells #[.slice A R.length cap] 60)) g19 (.cells #[.int .i64 code, .bool found, .string ak, .string av] 38 (0, 0)) ∧ Row (w6.alloc (.cells #[.slice A R.length cap] 60)) A1 (wcs (stW l ps id)) ∧ w1.heap.size ≤ w6.heap.size) := Lib.hid (by
                        have t2 : Turn No w6 (w6.alloc (.cells #[.slice A R.length cap] 60)) := (Turn.refl _ _).alloc _
                        exact ⟨T6.out.trans t2, At.new _ _, H6.out.2.1.no t2, H6.out.2.2.1.no t2, H6.out.2.2.2.no t2, T6.out.size⟩)
                      clear H6 z0 T6 T2
                      generalize w6.alloc (.cells #[.slice A R.length cap] 60) = w7 at H7 ⊢
                      generalize w6.heap.size = g21 at H7 ⊢
                      have CI := Lib.hid (ridle_any ⟨code, found, ak, av⟩ w7)
                      have d0 := H7.out.2.2.2.1.cell 0
                      have d1 := H7.out.2.2.2.1.cell 1
                      have d2 := H7.out.2.2.2.1.cell 2
                      have d3 := H7.out.2.2.2.1.cell 3
                      simp at d0 d1 d2 d3
                      go_cut [107] from 101 to 107 (fun s wx => s = .bool (survB l id) ∧ Hid (Turn No w7 wx))
                      case first =>
                        by_cases h3 : sn < 3
                        · have hd : decide (sn < 3) = true := decide_eq_true h3
                          have HSV : Hid (survB l id = true) := Lib.hid (by unfold survB; rw [HSA.out.2]; simp; omega)
                          clear h3 CI
                          go_wp2_with fail
                          go_meet
                          exact ⟨by rw [HSV.out], Lib.hid (Turn.refl _ _)⟩
                        · obtain rfl : sn = 3 := by omega
                          have HSV : Hid (survB l id = !idleA ⟨code, found, ak, av⟩) := Lib.hid (by unfold survB; rw [HSA.out.1, HSA.out.2]; rfl)
                          clear h3
                          go_wp2_with (go_at_call 34; (with_reducible refine CI.out.mono ?_); rintro e2 w7b ⟨rfl, ht⟩; replace ht := Lib.hid ht)
                          go_meet
                          exact ⟨by rw [HSV.out], ht⟩
                      case rest =>
                        obtain ⟨rfl, HCT⟩ := hcut
                        generalize wc = w7b at HCT ⊢
                        have H7b : Hid (Turn No w1 w7b ∧ At w7b g21 (.cells #[.slice A R.length cap] 60 (0, 0)) ∧ At w7b g18 (.cells #[.int .u8 ok, .string kk, .string v, .string ov, .bool had, .bool aft, .slice A1 (stW l ps id).length c1] 34 (0, 0)) ∧ At w7b g19 (.cells #[.int .i64 code, .bool found, .string ak, .string av] 38 (0, 0)) ∧ Row w7b A1 (wcs (stW l ps id)) ∧ w1.heap.size ≤ g21) := Lib.hid ⟨H7.out.1.trans HCT.out, H7.out.2.1.no HCT.out, H7.out.2.2.1.no HCT.out, H7.out.2.2.2.1.no HCT.out, H7.out.2.2.2.2.1.no HCT.out, H7.out.2.2.2.2.2⟩
                        clear CI d0 d1 d2 d3 H7 HCT
                        have H7 := H7b
                        clear H7b
                        generalize w7b = w7 at H7 ⊢
                        cases hsv : survB l id with
                        | false =>
                          have HSV := Lib.hid hsv
                          clear hsv
                          go_upto_region 26 with fail
                          have HG := Lib.hid (And.intro H7.out.1 True.intro)
                          have HS1 : Hid (∀ W, Turn No w7 W → W.cell? ⟨g21, 0, none⟩ = some (.slice A R.length cap)) := Lib.hid fun W t => (H7.out.2.1.no t).cell 0
                          have TD : Hid (Turn No w7 w7.drew) := Lib.hid (Turn.refl No w7).drew
                          have HRO : Hid (∀ W, Turn No w7 W → Row W Br (ics row)) := Lib.hid fun W t => HC.out.2.1.2.2.2.no (H7.out.1.trans t)
                          have CT := CTR.out R M A cap w7 H7.out.1 (own_grown HC.out.2.1.2.2.1 H7.out.1 (fun _ _ h => h)) HM.out.1 HM.out.2.1 HM.out.2.2.1 (by omega)
                          have HST : Hid (DR l ps I M (row ++ [id]) ↔ StepD l ps I M row id) := Lib.hid ⟨fun h => ⟨HIN.out, HFR.out, .inl ⟨HSV.out, h⟩⟩, fun h => by
                            rcases h.2.2 with ⟨_, h4⟩ | ⟨h4, _⟩
                            · exact h4
                            · rw [HSV.out] at h4; cases h4⟩
                          go_cut [130] from 121 to 130 (fun s wx => ∃ bt : Bool, s = .bool bt ∧ Hid ((bt = true ↔ DR l ps I M (row ++ [id])) ∧ Turn No w7 wx))
                          case first =>
                            obtain ⟨Ba1, ca1, Wa2, Ba2, ca2, Wa4, qa1, qa2, ra4, ta2, ta4⟩ := ordA (w := w7.drew) (cr := cr) (id := id) (HRO.out _ TD.out) (by omega); obtain ⟨Bb1, cb1, Wb3, Bb2, cb2, Wb4, qb1, qb2, rb4, tb3, tb4⟩ := ordB (w := w7.drew) (cr := cr) (id := id) (HRO.out _ TD.out) (by omega); obtain ⟨Bc1, cc1, Wc3, Bc2, cc2, Wc4, qc1, qc2, rc4, tc3, tc4⟩ := ordC (w := w7.drew) (cr := cr) (id := id) (HRO.out _ TD.out) (by omega); have HA := Lib.hid (And.intro ra4 (And.intro (TD.out.trans ta2) (TD.out.trans ta4))); have HB := Lib.hid (And.intro rb4 (And.intro (TD.out.trans tb3) (TD.out.trans tb4))); have HCC := Lib.hid (And.intro rc4 (And.intro (TD.out.trans tc3) (TD.out.trans tc4))); have hsz : w7.drew.heap.size = w7.heap.size := rfl; rw [hsz] at qa1 qb1 qb2 qc1 qc2; clear ra4 ta2 ta4 rb4 tb3 tb4 rc4 tc3 tc4 hsz; have hS0 := HS1.out _ TD.out; refine wp_region_held_drew (S := fun W => W.cell? ⟨g21, 0, none⟩ = some (.slice A R.length cap)) (by kernel_rfl) hS0 (fun hHeld => ?_); refine wpAnyH_take (i := 0) (v := (.agg #[.slice A R.length cap])) rfl (by decide +kernel) (by decide +kernel) (by decide +kernel) (fun _ _ _ h => h) (Or.inl ⟨by rfl, ?h0x1⟩) (by assumption) ?r0x1; (case h0x1 => (intro w0 hSw; (try dsimp only at hSw); go_simp; done)); refine wpAnyH_take (i := 1) (v := (.slice B l.length cap2)) rfl (by decide +kernel) (by decide +kernel) (by decide +kernel) (fun _ _ _ h => h) (Or.inl ⟨by rfl, ?h1x1⟩) (by assumption) ?r1x1; (case h1x1 => (intro w0 hSw; (try dsimp only at hSw); go_simp; done)); refine wpAnyH_take (i := 2) (v := (.slice (some ⟨bi, fi, none⟩) I.length ci)) rfl (by decide +kernel) (by decide +kernel) (by decide +kernel) (fun _ _ _ h => h) (Or.inl ⟨by rfl, ?h2x1⟩) (by assumption) ?r2x1; (case h2x1 => (intro w0 hSw; (try dsimp only at hSw); go_simp; done)); refine wpAnyH_take (i := 4) (v := (.slice Br row.length cr)) rfl (by decide +kernel) (by decide +kernel) (by decide +kernel) (fun _ _ _ h => h) (Or.inl ⟨by rfl, ?h4x1⟩) (by assumption) ?r4x1; (case h4x1 => (intro w0 hSw; (try dsimp only at hSw); go_simp; done)); refine wpAnyH_take (i := 6) (v := (.int .i64 id)) rfl (by decide +kernel) (by decide +kernel) (by decide +kernel) (fun _ _ _ h => h) (Or.inl ⟨by rfl, ?h6x1⟩) (by assumption) ?r6x1; (case h6x1 => (intro w0 hSw; (try dsimp only at hSw); go_simp; done)); (try simp only [Act.put, List.getElem_toArray, List.getElem_cons_succ, List.getElem_cons_zero, List.setIfInBounds_toArray, List.set_cons_zero, List.set_cons_succ]); refine wpAnyH_ready (rs := [3, 7]) (by decide +kernel) (by simp) ?_; refine AllReadyH.cons rfl (fun K hK => ?_) (AllReadyH.cons rfl (fun K hK => ?_) AllReadyH.nil)
                            · go_simp; (try (go_wp2_with fail)); refine hK.out _ _ (HS1.out _ (TD.out.alloc _)) (fun hHeld => ?_); clear hK K; (try simp only [Act.put, List.getElem_toArray, List.getElem_cons_succ, List.getElem_cons_zero, List.setIfInBounds_toArray, List.set_cons_zero, List.set_cons_succ]); refine wpAnyH_ready (rs := [5, 7]) (by decide +kernel) (by simp) ?_; refine AllReadyH.cons rfl (fun K hK => ?_) (AllReadyH.cons rfl (fun K hK => ?_) AllReadyH.nil)
                              · refine step_append_run (by rfl) _ _ 65 (by rfl) _ _ _ (by rfl) (by rfl) qa1 ?_; refine hK.out _ _ (HS1.out _ HA.out.2.1) (fun hHeld => ?_); clear hK K; (try simp only [Act.put, List.getElem_toArray, List.getElem_cons_succ, List.getElem_cons_zero, List.setIfInBounds_toArray, List.set_cons_zero, List.set_cons_succ]); refine wpAnyH_ready (rs := [7]) (by decide +kernel) (by simp) ?_; refine AllReadyH.cons rfl (fun K hK => ?_) AllReadyH.nil; go_simp; (try (go_wp2_with fail)); refine hK.out _ _ (HS1.out _ (HA.out.2.1.alloc _)) (fun hHeld => ?_); clear hK K; (try simp only [Act.put, List.getElem_toArray, List.getElem_cons_succ, List.getElem_cons_zero, List.setIfInBounds_toArray, List.set_cons_zero, List.set_cons_succ]); refine wpAnyH_ready (rs := [8]) (by decide +kernel) (by simp) ?_; refine AllReadyH.cons rfl (fun K hK => ?_) AllReadyH.nil; refine step_append_run (by rfl) _ _ 65 (by rfl) _ _ _ (by rfl) (by rfl) qa2 ?_; refine hK.out _ _ (HS1.out _ HA.out.2.2) (fun hHeld => ?_); clear hK K; (try simp only [Act.put, List.getElem_toArray, List.getElem_cons_succ, List.getElem_cons_zero, List.setIfInBounds_toArray, List.set_cons_zero, List.set_cons_succ]); refine wpAnyH_ready (rs := [9]) (by decide +kernel) (by simp) ?_; refine AllReadyH.cons rfl (fun K hK => ?_) AllReadyH.nil; go_simp; go_at_call 49; (with_reducible refine (CT.out _ HA.out.2.2 _ _ HA.out.1).mono ?_); rintro e9 w9 ⟨bt, rfl, hiff, ht⟩; have HT := Lib.hid (And.intro hiff ht); clear hiff ht; (try (go_wp2_with fail)); refine hK.out _ _ (HS1.out _ HT.out.2) (fun hHeld => ?_); clear hK K; (try simp only [Act.put, List.getElem_toArray, List.getElem_cons_succ, List.getElem_cons_zero, List.setIfInBounds_toArray, List.set_cons_zero, List.set_cons_succ]); refine wpAnyH_done (by decide +kernel) ?_ _; go_wp2_with fail; go_meet; exact ⟨bt, rfl, HT⟩
                              · go_simp; (try (go_wp2_with fail)); refine hK.out _ _ (HS1.out _ ((TD.out.alloc _).alloc _)) (fun hHeld => ?_); clear hK K; (try simp only [Act.put, List.getElem_toArray, List.getElem_cons_succ, List.getElem_cons_zero, List.setIfInBounds_toArray, List.set_cons_zero, List.set_cons_succ]); refine wpAnyH_ready (rs := [5]) (by decide +kernel) (by simp) ?_; refine AllReadyH.cons rfl (fun K hK => ?_) AllReadyH.nil; refine step_append_run (by rfl) _ _ 65 (by rfl) _ _ _ (by rfl) (by rfl) qb1 ?_; refine hK.out _ _ (HS1.out _ HB.out.2.1) (fun hHeld => ?_); clear hK K; (try simp only [Act.put, List.getElem_toArray, List.getElem_cons_succ, List.getElem_cons_zero, List.setIfInBounds_toArray, List.set_cons_zero, List.set_cons_succ]); refine wpAnyH_ready (rs := [8]) (by decide +kernel) (by simp) ?_; refine AllReadyH.cons rfl (fun K hK => ?_) AllReadyH.nil; refine step_append_run (by rfl) _ _ 65 (by rfl) _ _ _ (by rfl) (by rfl) qb2 ?_; refine hK.out _ _ (HS1.out _ HB.out.2.2) (fun hHeld => ?_); clear hK K; (try simp only [Act.put, List.getElem_toArray, List.getElem_cons_succ, List.getElem_cons_zero, List.setIfInBounds_toArray, List.set_cons_zero, List.set_cons_succ]); refine wpAnyH_ready (rs := [9]) (by decide +kernel) (by simp) ?_; refine AllReadyH.cons rfl (fun K hK => ?_) AllReadyH.nil; go_simp; go_at_call 49; (with_reducible refine (CT.out _ HB.out.2.2 _ _ HB.out.1).mono ?_); rintro e9 w9 ⟨bt, rfl, hiff, ht⟩; have HT := Lib.hid (And.intro hiff ht); clear hiff ht; (try (go_wp2_with fail)); refine hK.out _ _ (HS1.out _ HT.out.2) (fun hHeld => ?_); clear hK K; (try simp only [Act.put, List.getElem_toArray, List.getElem_cons_succ, List.getElem_cons_zero, List.setIfInBounds_toArray, List.set_cons_zero, List.set_cons_succ]); refine wpAnyH_done (by decide +kernel) ?_ _; go_wp2_with fail; go_meet; exact ⟨bt, rfl, HT⟩
                            · go_simp; (try (go_wp2_with fail)); refine hK.out _ _ (HS1.out _ (TD.out.alloc _)) (fun hHeld => ?_); clear hK K; (try simp only [Act.put, List.getElem_toArray, List.getElem_cons_succ, List.getElem_cons_zero, List.setIfInBounds_toArray, List.set_cons_zero, List.set_cons_succ]); refine wpAnyH_ready (rs := [3]) (by decide +kernel) (by simp) ?_; refine AllReadyH.cons rfl (fun K hK => ?_) AllReadyH.nil; go_simp; (try (go_wp2_with fail)); refine hK.out _ _ (HS1.out _ ((TD.out.alloc _).alloc _)) (fun hHeld => ?_); clear hK K; (try simp only [Act.put, List.getElem_toArray, List.getElem_cons_succ, List.getElem_cons_zero, List.setIfInBounds_toArray, List.set_cons_zero, List.set_cons_succ]); refine wpAnyH_ready (rs := [5]) (by decide +kernel) (by simp) ?_; refine AllReadyH.cons rfl (fun K hK => ?_) AllReadyH.nil; refine step_append_run (by rfl) _ _ 65 (by rfl) _ _ _ (by rfl) (by rfl) qc1 ?_; refine hK.out _ _ (HS1.out _ HCC.out.2.1) (fun hHeld => ?_); clear hK K; (try simp only [Act.put, List.getElem_toArray, List.getElem_cons_succ, List.getElem_cons_zero, List.setIfInBounds_toArray, List.set_cons_zero, List.set_cons_succ]); refine wpAnyH_ready (rs := [8]) (by decide +kernel) (by simp) ?_; refine AllReadyH.cons rfl (fun K hK => ?_) AllReadyH.nil; refine step_append_run (by rfl) _ _ 65 (by rfl) _ _ _ (by rfl) (by rfl) qc2 ?_; refine hK.out _ _ (HS1.out _ HCC.out.2.2) (fun hHeld => ?_); clear hK K; (try simp only [Act.put, List.getElem_toArray, List.getElem_cons_succ, List.getElem_cons_zero, List.setIfInBounds_toArray, List.set_cons_zero, List.set_cons_succ]); refine wpAnyH_ready (rs := [9]) (by decide +kernel) (by simp) ?_; refine AllReadyH.cons rfl (fun K hK => ?_) AllReadyH.nil; go_simp; go_at_call 49; (with_reducible refine (CT.out _ HCC.out.2.2 _ _ HCC.out.1).mono ?_); rintro e9 w9 ⟨bt, rfl, hiff, ht⟩; have HT := Lib.hid (And.intro hiff ht); clear hiff ht; (try (go_wp2_with fail)); refine hK.out _ _ (HS1.out _ HT.out.2) (fun hHeld => ?_); clear hK K; (try simp only [Act.put, List.getElem_toArray, List.getElem_cons_succ, List.getElem_cons_zero, List.setIfInBounds_toArray, List.set_cons_zero, List.set_cons_succ]); refine wpAnyH_done (by decide +kernel) ?_ _; go_wp2_with fail; go_meet; exact ⟨bt, rfl, HT⟩
                          case rest =>
                            obtain ⟨bt, rfl, HT⟩ := hcut
                            generalize wc = w9 at HT ⊢
                            clear CT HS1 TD HRO
                            have TT := Lib.hid (HG.out.1.trans HT.out.2)
                            obtain ⟨br, hbr⟩ : ∃ x, x = bt := ⟨_, rfl⟩
                            subst hbr
                            cases br with
                            | true =>
                              have HGO : Hid (DR l ps I M row) := Lib.hid (DR.of_step HMEM.out (HST.out.1 (HT.out.1.1 rfl)))
                              go_wp2_with fail
                              go_ret
                              exact RRes.of true rfl ⟨fun _ => HGO.out, fun _ => rfl⟩ (HC.out.2.2.trans TT.out)
                            | false =>
                              have HNO : Hid (¬ StepD l ps I M row id) := Lib.hid fun h => by have := HT.out.1.2 (HST.out.2 h); cases this
                              go_wp2_with fail
                              exact ⟨⟨k + 1, by omega, by go_num, Lib.hid ⟨TT.out, fun j a hj ha => HNX.out j a hj ha HNO.out⟩⟩, by simp [RowKit.intOf]; omega⟩
                        | true =>
                          have HSV := Lib.hid hsv
                          clear hsv
                          go_upto_region 24 with fail
                          have H8 : Hid (Turn No w1 (w7.alloc (.cells #[.int .i64 0, .bool false, .string ⟨#[]⟩, .string ⟨#[]⟩] 38)) ∧ At (w7.alloc (.cells #[.int .i64 0, .bool false, .string ⟨#[]⟩, .string ⟨#[]⟩] 38)) g21 (.cells #[.slice A R.length cap] 60 (0, 0)) ∧ At (w7.alloc (.cells #[.int .i64 0, .bool false, .string ⟨#[]⟩, .string ⟨#[]⟩] 38)) g18 (.cells #[.int .u8 ok, .string kk, .string v, .string ov, .bool had, .bool aft, .slice A1 (stW l ps id).length c1] 34 (0, 0)) ∧ At (w7.alloc (.cells #[.int .i64 0, .bool false, .string ⟨#[]⟩, .string ⟨#[]⟩] 38)) g19 (.cells #[.int .i64 code, .bool found, .string ak, .string av] 38 (0, 0)) ∧ Row (w7.alloc (.cells #[.int .i64 0, .bool false, .string ⟨#[]⟩, .string ⟨#[]⟩] 38)) A1 (wcs (stW l ps id)) ∧ w1.heap.size ≤ g21 ∧ At (w7.alloc (.cells #[.int .i64 0, .bool false, .string ⟨#[]⟩, .string ⟨#[]⟩] 38)) w7.heap.size (.cells #[.int .i64 0, .bool false, .string ⟨#[]⟩, .string ⟨#[]⟩] 38 (0, 0)) ∧ w1.heap.size ≤ w7.heap.size) := Lib.hid (by
                            have t2 : Turn No w7 (w7.alloc (.cells #[.int .i64 0, .bool false, .string ⟨#[]⟩, .string ⟨#[]⟩] 38)) := (Turn.refl _ _).alloc _
                            exact ⟨H7.out.1.trans t2, H7.out.2.1.no t2, H7.out.2.2.1.no t2, H7.out.2.2.2.1.no t2, H7.out.2.2.2.2.1.no t2, H7.out.2.2.2.2.2, At.new _ _, H7.out.1.size⟩)
                          have HNE : Hid (¬ w7.heap.size = g21 ∧ ¬ g21 = w7.heap.size ∧ ¬ w7.heap.size = g19) := Lib.hid (by
                            have h1 := H7.out.2.1.lt
                            have h2 := H7.out.2.2.2.1.lt
                            omega)
                          clear H7
                          generalize w7.alloc (.cells #[.int .i64 0, .bool false, .string ⟨#[]⟩, .string ⟨#[]⟩] 38) = w8 at H8 ⊢
                          generalize w7.heap.size = g22 at H8 HNE ⊢
                          obtain ⟨R2, hR2⟩ : ∃ x, doR R ok kk v ov had aft (stW l ps id) = x := ⟨_, rfl⟩
                          obtain ⟨aa, haa⟩ : ∃ x, doA M ok kk v ov had aft (stW l ps id) = x := ⟨_, rfl⟩
                          obtain ⟨M2, hM2⟩ : ∃ x, doM M ok kk v ov had aft (stW l ps id) = x := ⟨_, rfl⟩
                          have HAA0 : Hid (opA M (stO l id) (stW l ps id) = aa) := Lib.hid (by rw [HOP.out, ← haa]; rfl)
                          have HMM : Hid (opD M (stO l id) (stW l ps id) = M2) := Lib.hid (by rw [HOP.out, ← hM2]; rfl)
                          have HM2 : Hid (Sim R2 M2 ∧ Asc M2 ∧ FitL M2 ∧ M2.length ≤ M.length + 41) := Lib.hid (by
                            obtain ⟨m1, m2, m3, m4, m5, m6⟩ := HM.out
                            have hfw := HFE.out.1.st HFE.out.2 id
                            refine ⟨by rw [← hR2, ← hM2]; exact m1.doR m2 ok kk v ov had aft _, by rw [← hM2]; exact asc_doM m2 _ _ _ _ _ _ _, by rw [← HMM.out]; exact m3.op hfw, by rw [← HMM.out]; exact opD_len M _ hfw.n⟩)
                          have CR : Hid (Calls Try.prog 36 #[.agg #[.slice A R.length cap], .agg #[.int .u8 ok, .string kk, .string v, .string ov, .bool had, .bool aft, .slice A1 (stW l ps id).length c1]] w8 (RDo 0 w8 (.slice A R.length cap) R2 aa)) := Lib.hid (by
                            obtain ⟨m1, m2, m3, m4, m5, m6⟩ := HM.out
                            have hfw := HFE.out.1.st HFE.out.2 id
                            rw [HOP.out] at hfw
                            have hff := few_fit hfw
                            have := rdo_any R M A cap ok kk v ov had aft A1 c1 (stW l ps id) w8 (Z := 0) (Nat.zero_le _) (own_grown HC.out.2.1.2.2.1 H8.out.1 (fun _ _ h => h)) (by have h2 := m1.len; have h3 := hfw.n; omega) (fun p hp => m3 p (m1.mem hp)) m1 m2 H8.out.2.2.2.2.1 hff.1 hff.2
                            rw [hR2, haa] at this
                            exact this)
                          clear hR2 haa hM2
                          obtain ⟨ac, af, gk, gv⟩ := aa
                          have z0 := (HC.out.1.no H8.out.1).cell 0
                          have y0 := H8.out.2.2.1.cell 0
                          have y1 := H8.out.2.2.1.cell 1
                          have y2 := H8.out.2.2.1.cell 2
                          have y3 := H8.out.2.2.1.cell 3
                          have y4 := H8.out.2.2.1.cell 4
                          have y5 := H8.out.2.2.1.cell 5
                          have y6 := H8.out.2.2.1.cell 6
                          simp at z0 y0 y1 y2 y3 y4 y5 y6
                          have n1 := HNE.out.1
                          have n2 := HNE.out.2.1
                          go_upto_region 25 with (go_at_call 36; refine CR.out.mono ?_; rintro e2 w9 ⟨B2, c2, rfl, ho, hold, ht⟩; have H9 : Hid (Turn No w1 w9 ∧ At w9 g21 (.cells #[.slice A R.length cap] 60 (0, 0)) ∧ At w9 g19 (.cells #[.int .i64 code, .bool found, .string ak, .string av] 38 (0, 0)) ∧ At w9 g22 (.cells #[.int .i64 0, .bool false, .string ⟨#[]⟩, .string ⟨#[]⟩] 38 (0, 0)) ∧ w9.ownsRow 0 47 2 (.slice B2 R2.length c2) R2.length (pcs R2)) := Lib.hid ⟨H8.out.1.trans ht, H8.out.2.1.no ht, H8.out.2.2.2.1.no ht, H8.out.2.2.2.2.2.2.1.no ht, ho⟩; clear ho hold ht; have z1 := H9.out.2.1.cell 0; have zf := H9.out.2.1.thawed 0; have c0 := H9.out.2.2.2.1.cell 0; have cc1 := H9.out.2.2.2.1.cell 1; have cc2 := H9.out.2.2.2.1.cell 2; have cc3 := H9.out.2.2.2.1.cell 3; have f0 := H9.out.2.2.2.1.thawed 0; have f1 := H9.out.2.2.2.1.thawed 1; have f2 := H9.out.2.2.2.1.thawed 2; have f3 := H9.out.2.2.2.1.thawed 3; simp at z1 c0 cc1 cc2 cc3)
                          have H10 : Hid (Turn No w1 (((((w9.setCell ⟨g21, 0, none⟩ (.slice B2 R2.length c2)).setCell ⟨g22, 0, none⟩ (.int .i64 ac)).setCell ⟨g22, 1, none⟩ (.bool af)).setCell ⟨g22, 2, none⟩ (.string gk)).setCell ⟨g22, 3, none⟩ (.string gv)) ∧ At (((((w9.setCell ⟨g21, 0, none⟩ (.slice B2 R2.length c2)).setCell ⟨g22, 0, none⟩ (.int .i64 ac)).setCell ⟨g22, 1, none⟩ (.bool af)).setCell ⟨g22, 2, none⟩ (.string gk)).setCell ⟨g22, 3, none⟩ (.string gv)) g21 (.cells #[.slice B2 R2.length c2] 60 (0, 0)) ∧ At (((((w9.setCell ⟨g21, 0, none⟩ (.slice B2 R2.length c2)).setCell ⟨g22, 0, none⟩ (.int .i64 ac)).setCell ⟨g22, 1, none⟩ (.bool af)).setCell ⟨g22, 2, none⟩ (.string gk)).setCell ⟨g22, 3, none⟩ (.string gv)) g22 (.cells #[.int .i64 ac, .bool af, .string gk, .string gv] 38 (0, 0)) ∧ At (((((w9.setCell ⟨g21, 0, none⟩ (.slice B2 R2.length c2)).setCell ⟨g22, 0, none⟩ (.int .i64 ac)).setCell ⟨g22, 1, none⟩ (.bool af)).setCell ⟨g22, 2, none⟩ (.string gk)).setCell ⟨g22, 3, none⟩ (.string gv)) g19 (.cells #[.int .i64 code, .bool found, .string ak, .string av] 38 (0, 0)) ∧ (((((w9.setCell ⟨g21, 0, none⟩ (.slice B2 R2.length c2)).setCell ⟨g22, 0, none⟩ (.int .i64 ac)).setCell ⟨g22, 1, none⟩ (.bool af)).setCell ⟨g22, 2, none⟩ (.string gk)).setCell ⟨g22, 3, none⟩ (.string gv)).ownsRow 0 47 2 (.slice B2 R2.length c2) R2.length (pcs R2)) := Lib.hid (by
                            have s1 := Turn.set1 w9 g21 0 (.slice B2 R2.length c2)
                            have s4 := turn4 (w9.setCell ⟨g21, 0, none⟩ (.slice B2 R2.length c2)) g22 0 1 2 3 (.int .i64 ac) (.bool af) (.string gk) (.string gv)
                            have n19 : ¬ g19 = g21 := fun e => by
                              subst e
                              have := H9.out.2.1.eq H9.out.2.2.1
                              injection this with _ e3 _
                              exact absurd e3 (by decide)
                            have a21 : At (w9.setCell ⟨g21, 0, none⟩ (.slice B2 R2.length c2)) g21 (.cells #[.slice B2 R2.length c2] 60 (0, 0)) := by simpa using H9.out.2.1.set 0 (.slice B2 R2.length c2)
                            have a22 := H9.out.2.2.2.1.turn s1 HNE.out.1
                            have o1 := own_grown H9.out.2.2.2.2 s1 (fun q hq e => own_ne H9.out.2.2.2.2 H9.out.2.1 (by decide) (by rw [← e]; exact hq))
                            refine ⟨(H9.out.1.then s1 fun q hq e => ?_).then s4 fun q hq e => ?_, a21.turn s4 HNE.out.2.1, at_put4 a22 _ _ _ _, (H9.out.2.2.1.turn s1 n19).turn s4 fun e => HNE.out.2.2 e.symm, own_grown o1 s4 (fun q hq e => own_ne o1 a22 (by decide) (by rw [← e]; exact hq))⟩
                            · have := H8.out.2.2.2.2.2.1
                              omega
                            · have := H8.out.2.2.2.2.2.2.2
                              omega)
                          clear H9 H8 CR z0 y0 y1 y2 y3 y4 y5 y6 n1 n2 z1 zf c0 cc1 cc2 cc3 f0 f1 f2 f3
                          generalize ((((w9.setCell ⟨g21, 0, none⟩ (.slice B2 R2.length c2)).setCell ⟨g22, 0, none⟩ (.int .i64 ac)).setCell ⟨g22, 1, none⟩ (.bool af)).setCell ⟨g22, 2, none⟩ (.string gk)).setCell ⟨g22, 3, none⟩ (.string gv) = w10 at H10 ⊢
                          have HAA := HAA0
                          clear HAA0
                          have HG := Lib.hid (And.intro H10.out.1 True.intro)
                          have HS1 : Hid (∀ W, Turn No w10 W → W.cell? ⟨g21, 0, none⟩ = some (.slice B2 R2.length c2)) := Lib.hid fun W t => (H10.out.2.1.no t).cell 0
                          have TD : Hid (Turn No w10 w10.drew) := Lib.hid (Turn.refl No w10).drew
                          have HRO : Hid (∀ W, Turn No w10 W → Row W Br (ics row)) := Lib.hid fun W t => HC.out.2.1.2.2.2.no (H10.out.1.trans t)
                          have CT := CTR.out R2 M2 B2 c2 w10 H10.out.1 H10.out.2.2.2.2 HM2.out.1 HM2.out.2.1 HM2.out.2.2.1 HM2.out.2.2.2
                          obtain ⟨bb, hbb⟩ : ∃ x, ansEq ac code af found gk ak gv av = x := ⟨_, rfl⟩
                          have HBB : Hid (bb = true ↔ (⟨ac, af, gk, gv⟩ : Ans) = ⟨code, found, ak, av⟩) := Lib.hid (by rw [← hbb]; exact ansEq_iff)
                          have qn : ∀ W : World, (binOp .neq 38 (.agg #[.int .i64 ac, .bool af, .string gk, .string gv]) (.agg #[.int .i64 code, .bool found, .string ak, .string av])).run Try.prog W = .ok (.bool (!bb)) W := fun W => by rw [neq_ans, hbb]
                          clear hbb
                          go_cut [120] from 114 to 120 (fun s wx => s = .bool (decide (sn = 3) && !bb) ∧ wx = w10)
                          case first =>
                            by_cases h3 : sn = 3
                            · subst h3
                              have d0 := H10.out.2.2.1.cell 0
                              have d1 := H10.out.2.2.1.cell 1
                              have d2 := H10.out.2.2.1.cell 2
                              have d3 := H10.out.2.2.1.cell 3
                              have e0 := H10.out.2.2.2.1.cell 0
                              have e1 := H10.out.2.2.2.1.cell 1
                              have e2 := H10.out.2.2.2.1.cell 2
                              have e3 := H10.out.2.2.2.1.cell 3
                              simp at d0 d1 d2 d3 e0 e1 e2 e3
                              go_wp2_with fail
                              go_meet
                              exact ⟨by simp, rfl⟩
                            · have hs3 : (sn == 3) = false := by simpa using h3
                              have hs4 : decide (sn = 3) = false := decide_eq_false h3
                              clear h3
                              go_wp2_with fail
                              go_meet
                              exact ⟨by rw [hs4]; rfl, rfl⟩
                          case rest =>
                            obtain ⟨rfl, hwc⟩ := hcut
                            replace hwc := hwc.symm
                            subst hwc
                            clear qn
                            obtain ⟨bad, hbad⟩ : ∃ x, (decide (sn = 3) && !bb) = x := ⟨_, rfl⟩
                            rw [hbad]
                            cases bad with
                            | false =>
                              have HAE : Hid (stN l id = 3 → opA M (stO l id) (stW l ps id) = stA l id) := Lib.hid fun h3 => by
                                rw [HSA.out.2] at h3
                                rw [decide_eq_true h3] at hbad
                                rw [HAA.out, HSA.out.1]
                                exact HBB.out.1 (by simpa using hbad)
                              have HST : Hid (DR l ps I M2 (row ++ [id]) ↔ StepD l ps I M row id) := Lib.hid ⟨fun h => ⟨HIN.out, HFR.out, .inr ⟨HSV.out, HAE.out, by rw [HMM.out]; exact h⟩⟩, fun h => by
                                rcases h.2.2 with ⟨h4, _⟩ | ⟨_, _, h4⟩
                                · rw [HSV.out] at h4; cases h4
                                · rwa [HMM.out] at h4⟩
                              clear hbad
                              go_upto_region 26 with fail
                              go_cut [130] from 121 to 130 (fun s wx => ∃ bt : Bool, s = .bool bt ∧ Hid ((bt = true ↔ DR l ps I M2 (row ++ [id])) ∧ Turn No w10 wx))
                              case first =>
                                obtain ⟨Ba1, ca1, Wa2, Ba2, ca2, Wa4, qa1, qa2, ra4, ta2, ta4⟩ := ordA (w := w10.drew) (cr := cr) (id := id) (HRO.out _ TD.out) (by omega); obtain ⟨Bb1, cb1, Wb3, Bb2, cb2, Wb4, qb1, qb2, rb4, tb3, tb4⟩ := ordB (w := w10.drew) (cr := cr) (id := id) (HRO.out _ TD.out) (by omega); obtain ⟨Bc1, cc1, Wc3, Bc2, cc2, Wc4, qc1, qc2, rc4, tc3, tc4⟩ := ordC (w := w10.drew) (cr := cr) (id := id) (HRO.out _ TD.out) (by omega); have HA := Lib.hid (And.intro ra4 (And.intro (TD.out.trans ta2) (TD.out.trans ta4))); have HB := Lib.hid (And.intro rb4 (And.intro (TD.out.trans tb3) (TD.out.trans tb4))); have HCC := Lib.hid (And.intro rc4 (And.intro (TD.out.trans tc3) (TD.out.trans tc4))); have hsz : w10.drew.heap.size = w10.heap.size := rfl; rw [hsz] at qa1 qb1 qb2 qc1 qc2; clear ra4 ta2 ta4 rb4 tb3 tb4 rc4 tc3 tc4 hsz; have hS0 := HS1.out _ TD.out; refine wp_region_held_drew (S := fun W => W.cell? ⟨g21, 0, none⟩ = some (.slice B2 R2.length c2)) (by kernel_rfl) hS0 (fun hHeld => ?_); refine wpAnyH_take (i := 0) (v := (.agg #[.slice B2 R2.length c2])) rfl (by decide +kernel) (by decide +kernel) (by decide +kernel) (fun _ _ _ h => h) (Or.inl ⟨by rfl, ?h0x2⟩) (by assumption) ?r0x2; (case h0x2 => (intro w0 hSw; (try dsimp only at hSw); go_simp; done)); refine wpAnyH_take (i := 1) (v := (.slice B l.length cap2)) rfl (by decide +kernel) (by decide +kernel) (by decide +kernel) (fun _ _ _ h => h) (Or.inl ⟨by rfl, ?h1x2⟩) (by assumption) ?r1x2; (case h1x2 => (intro w0 hSw; (try dsimp only at hSw); go_simp; done)); refine wpAnyH_take (i := 2) (v := (.slice (some ⟨bi, fi, none⟩) I.length ci)) rfl (by decide +kernel) (by decide +kernel) (by decide +kernel) (fun _ _ _ h => h) (Or.inl ⟨by rfl, ?h2x2⟩) (by assumption) ?r2x2; (case h2x2 => (intro w0 hSw; (try dsimp only at hSw); go_simp; done)); refine wpAnyH_take (i := 4) (v := (.slice Br row.length cr)) rfl (by decide +kernel) (by decide +kernel) (by decide +kernel) (fun _ _ _ h => h) (Or.inl ⟨by rfl, ?h4x2⟩) (by assumption) ?r4x2; (case h4x2 => (intro w0 hSw; (try dsimp only at hSw); go_simp; done)); refine wpAnyH_take (i := 6) (v := (.int .i64 id)) rfl (by decide +kernel) (by decide +kernel) (by decide +kernel) (fun _ _ _ h => h) (Or.inl ⟨by rfl, ?h6x2⟩) (by assumption) ?r6x2; (case h6x2 => (intro w0 hSw; (try dsimp only at hSw); go_simp; done)); (try simp only [Act.put, List.getElem_toArray, List.getElem_cons_succ, List.getElem_cons_zero, List.setIfInBounds_toArray, List.set_cons_zero, List.set_cons_succ]); refine wpAnyH_ready (rs := [3, 7]) (by decide +kernel) (by simp) ?_; refine AllReadyH.cons rfl (fun K hK => ?_) (AllReadyH.cons rfl (fun K hK => ?_) AllReadyH.nil)
                                · go_simp; (try (go_wp2_with fail)); refine hK.out _ _ (HS1.out _ (TD.out.alloc _)) (fun hHeld => ?_); clear hK K; (try simp only [Act.put, List.getElem_toArray, List.getElem_cons_succ, List.getElem_cons_zero, List.setIfInBounds_toArray, List.set_cons_zero, List.set_cons_succ]); refine wpAnyH_ready (rs := [5, 7]) (by decide +kernel) (by simp) ?_; refine AllReadyH.cons rfl (fun K hK => ?_) (AllReadyH.cons rfl (fun K hK => ?_) AllReadyH.nil)
                                  · refine step_append_run (by rfl) _ _ 65 (by rfl) _ _ _ (by rfl) (by rfl) qa1 ?_; refine hK.out _ _ (HS1.out _ HA.out.2.1) (fun hHeld => ?_); clear hK K; (try simp only [Act.put, List.getElem_toArray, List.getElem_cons_succ, List.getElem_cons_zero, List.setIfInBounds_toArray, List.set_cons_zero, List.set_cons_succ]); refine wpAnyH_ready (rs := [7]) (by decide +kernel) (by simp) ?_; refine AllReadyH.cons rfl (fun K hK => ?_) AllReadyH.nil; go_simp; (try (go_wp2_with fail)); refine hK.out _ _ (HS1.out _ (HA.out.2.1.alloc _)) (fun hHeld => ?_); clear hK K; (try simp only [Act.put, List.getElem_toArray, List.getElem_cons_succ, List.getElem_cons_zero, List.setIfInBounds_toArray, List.set_cons_zero, List.set_cons_succ]); refine wpAnyH_ready (rs := [8]) (by decide +kernel) (by simp) ?_; refine AllReadyH.cons rfl (fun K hK => ?_) AllReadyH.nil; refine step_append_run (by rfl) _ _ 65 (by rfl) _ _ _ (by rfl) (by rfl) qa2 ?_; refine hK.out _ _ (HS1.out _ HA.out.2.2) (fun hHeld => ?_); clear hK K; (try simp only [Act.put, List.getElem_toArray, List.getElem_cons_succ, List.getElem_cons_zero, List.setIfInBounds_toArray, List.set_cons_zero, List.set_cons_succ]); refine wpAnyH_ready (rs := [9]) (by decide +kernel) (by simp) ?_; refine AllReadyH.cons rfl (fun K hK => ?_) AllReadyH.nil; go_simp; go_at_call 49; (with_reducible refine (CT.out _ HA.out.2.2 _ _ HA.out.1).mono ?_); rintro e9 w9 ⟨bt, rfl, hiff, ht⟩; have HT := Lib.hid (And.intro hiff ht); clear hiff ht; (try (go_wp2_with fail)); refine hK.out _ _ (HS1.out _ HT.out.2) (fun hHeld => ?_); clear hK K; (try simp only [Act.put, List.getElem_toArray, List.getElem_cons_succ, List.getElem_cons_zero, List.setIfInBounds_toArray, List.set_cons_zero, List.set_cons_succ]); refine wpAnyH_done (by decide +kernel) ?_ _; go_wp2_with fail; go_meet; exact ⟨bt, rfl, HT⟩
                                  · go_simp; (try (go_wp2_with fail)); refine hK.out _ _ (HS1.out _ ((TD.out.alloc _).alloc _)) (fun hHeld => ?_); clear hK K; (try simp only [Act.put, List.getElem_toArray, List.getElem_cons_succ, List.getElem_cons_zero, List.setIfInBounds_toArray, List.set_cons_zero, List.set_cons_succ]); refine wpAnyH_ready (rs := [5]) (by decide +kernel) (by simp) ?_; refine AllReadyH.cons rfl (fun K hK => ?_) AllReadyH.nil; refine step_append_run (by rfl) _ _ 65 (by rfl) _ _ _ (by rfl) (by rfl) qb1 ?_; refine hK.out _ _ (HS1.out _ HB.out.2.1) (fun hHeld => ?_); clear hK K; (try simp only [Act.put, List.getElem_toArray, List.getElem_cons_succ, List.getElem_cons_zero, List.setIfInBounds_toArray, List.set_cons_zero, List.set_cons_succ]); refine wpAnyH_ready (rs := [8]) (by decide +kernel) (by simp) ?_; refine AllReadyH.cons rfl (fun K hK => ?_) AllReadyH.nil; refine step_append_run (by rfl) _ _ 65 (by rfl) _ _ _ (by rfl) (by rfl) qb2 ?_; refine hK.out _ _ (HS1.out _ HB.out.2.2) (fun hHeld => ?_); clear hK K; (try simp only [Act.put, List.getElem_toArray, List.getElem_cons_succ, List.getElem_cons_zero, List.setIfInBounds_toArray, List.set_cons_zero, List.set_cons_succ]); refine wpAnyH_ready (rs := [9]) (by decide +kernel) (by simp) ?_; refine AllReadyH.cons rfl (fun K hK => ?_) AllReadyH.nil; go_simp; go_at_call 49; (with_reducible refine (CT.out _ HB.out.2.2 _ _ HB.out.1).mono ?_); rintro e9 w9 ⟨bt, rfl, hiff, ht⟩; have HT := Lib.hid (And.intro hiff ht); clear hiff ht; (try (go_wp2_with fail)); refine hK.out _ _ (HS1.out _ HT.out.2) (fun hHeld => ?_); clear hK K; (try simp only [Act.put, List.getElem_toArray, List.getElem_cons_succ, List.getElem_cons_zero, List.setIfInBounds_toArray, List.set_cons_zero, List.set_cons_succ]); refine wpAnyH_done (by decide +kernel) ?_ _; go_wp2_with fail; go_meet; exact ⟨bt, rfl, HT⟩
                                · go_simp; (try (go_wp2_with fail)); refine hK.out _ _ (HS1.out _ (TD.out.alloc _)) (fun hHeld => ?_); clear hK K; (try simp only [Act.put, List.getElem_toArray, List.getElem_cons_succ, List.getElem_cons_zero, List.setIfInBounds_toArray, List.set_cons_zero, List.set_cons_succ]); refine wpAnyH_ready (rs := [3]) (by decide +kernel) (by simp) ?_; refine AllReadyH.cons rfl (fun K hK => ?_) AllReadyH.nil; go_simp; (try (go_wp2_with fail)); refine hK.out _ _ (HS1.out _ ((TD.out.alloc _).alloc _)) (fun hHeld => ?_); clear hK K; (try simp only [Act.put, List.getElem_toArray, List.getElem_cons_succ, List.getElem_cons_zero, List.setIfInBounds_toArray, List.set_cons_zero, List.set_cons_succ]); refine wpAnyH_ready (rs := [5]) (by decide +kernel) (by simp) ?_; refine AllReadyH.cons rfl (fun K hK => ?_) AllReadyH.nil; refine step_append_run (by rfl) _ _ 65 (by rfl) _ _ _ (by rfl) (by rfl) qc1 ?_; refine hK.out _ _ (HS1.out _ HCC.out.2.1) (fun hHeld => ?_); clear hK K; (try simp only [Act.put, List.getElem_toArray, List.getElem_cons_succ, List.getElem_cons_zero, List.setIfInBounds_toArray, List.set_cons_zero, List.set_cons_succ]); refine wpAnyH_ready (rs := [8]) (by decide +kernel) (by simp) ?_; refine AllReadyH.cons rfl (fun K hK => ?_) AllReadyH.nil; refine step_append_run (by rfl) _ _ 65 (by rfl) _ _ _ (by rfl) (by rfl) qc2 ?_; refine hK.out _ _ (HS1.out _ HCC.out.2.2) (fun hHeld => ?_); clear hK K; (try simp only [Act.put, List.getElem_toArray, List.getElem_cons_succ, List.getElem_cons_zero, List.setIfInBounds_toArray, List.set_cons_zero, List.set_cons_succ]); refine wpAnyH_ready (rs := [9]) (by decide +kernel) (by simp) ?_; refine AllReadyH.cons rfl (fun K hK => ?_) AllReadyH.nil; go_simp; go_at_call 49; (with_reducible refine (CT.out _ HCC.out.2.2 _ _ HCC.out.1).mono ?_); rintro e9 w9 ⟨bt, rfl, hiff, ht⟩; have HT := Lib.hid (And.intro hiff ht); clear hiff ht; (try (go_wp2_with fail)); refine hK.out _ _ (HS1.out _ HT.out.2) (fun hHeld => ?_); clear hK K; (try simp only [Act.put, List.getElem_toArray, List.getElem_cons_succ, List.getElem_cons_zero, List.setIfInBounds_toArray, List.set_cons_zero, List.set_cons_succ]); refine wpAnyH_done (by decide +kernel) ?_ _; go_wp2_with fail; go_meet; exact ⟨bt, rfl, HT⟩
                              case rest =>
                                obtain ⟨bt, rfl, HT⟩ := hcut
                                generalize wc = w9 at HT ⊢
                                clear CT HS1 TD HRO
                                have TT := Lib.hid (HG.out.1.trans HT.out.2)
                                obtain ⟨br, hbr⟩ : ∃ x, x = bt := ⟨_, rfl⟩
                                subst hbr
                                cases br with
                                | true =>
                                  have HGO : Hid (DR l ps I M row) := Lib.hid (DR.of_step HMEM.out (HST.out.1 (HT.out.1.1 rfl)))
                                  go_wp2_with fail
                                  go_ret
                                  exact RRes.of true rfl ⟨fun _ => HGO.out, fun _ => rfl⟩ (HC.out.2.2.trans TT.out)
                                | false =>
                                  have HNO : Hid (¬ StepD l ps I M row id) := Lib.hid fun h => by have := HT.out.1.2 (HST.out.2 h); cases this
                                  go_wp2_with fail
                                  exact ⟨⟨k + 1, by omega, by go_num, Lib.hid ⟨TT.out, fun j a hj ha => HNX.out j a hj ha HNO.out⟩⟩, by simp [RowKit.intOf]; omega⟩
                            | true =>
                              have HNO : Hid (¬ StepD l ps I M row id) := Lib.hid fun h => by
                                rw [Bool.and_eq_true, decide_eq_true_eq] at hbad
                                rcases h.2.2 with ⟨h4, _⟩ | ⟨_, h4, _⟩
                                · rw [HSV.out] at h4; cases h4
                                · have h5 := h4 (by rw [HSA.out.2]; exact hbad.1)
                                  rw [HAA.out, HSA.out.1] at h5
                                  rw [HBB.out.2 h5] at hbad
                                  exact absurd hbad.2 (by decide)
                              clear hbad
                              go_wp2_with fail
                              exact ⟨⟨k + 1, by omega, by go_num, Lib.hid ⟨H10.out.1, fun j a hj ha => HNX.out j a hj ha HNO.out⟩⟩, by simp [RowKit.intOf]; omega⟩
            · obtain rfl : k = I.length := by omega
              have HNO : Hid (¬ DR l ps I M row) := Lib.hid (DR.none HND.out fun j a hja => HP.out.2 j a (List.getElem?_eq_some_iff.1 hja).1 hja)
              go_wp2_with fail
              go_ret
              exact RRes.of false rfl ⟨fun h => by (cases h), fun h => absurd h HNO.out⟩ (HC.out.2.2.trans HP.out.1)
theorem rows_any {l : List Ev} {ps : List (List Wr)} {B : Option Addr} {cap2 : Nat} {I : List Int} {Bi : Option Addr} {ci : Nat} (hI7 : I.length ≤ 7) (N : Nat) : RowsI l ps B cap2 I Bi ci N := Nat.strongRecOn N fun N ih => rows_step hI7 N (Lib.hid ih)
end Go.Proofs.Ytllppkfeiifklaa
