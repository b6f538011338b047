/-
  The law's apart: do two operations look at no key in common?
-/
import Derived.Test.YtllppkfeiifklaaWNms
namespace Go.Proofs.Ytllppkfeiifklaa
open Go.RowKit Go.Lib
set_option linter.unusedVariables false
set_option maxRecDepth 20000
set_option linter.unusedSimpArgs false

theorem names_nms {ok : Int} {k : ByteArray} {ws : List Wr} (h5 : ok ≠ 5) {q : ByteArray} (h : namesO ok k ws q = true) : q ∈ nmsO ok k ws := by
  unfold namesO at h
  unfold nmsO
  rw [if_neg h5]
  split
  · rename_i h6
    rw [if_pos h6] at h
    obtain ⟨x, hx, he⟩ := List.any_eq_true.1 h
    rw [← of_decide_eq_true he]
    exact List.mem_map.2 ⟨x, hx, rfl⟩
  · rename_i h6
    rw [if_neg h6] at h
    rw [← of_decide_eq_true h]
    exact List.mem_cons_self
theorem apart_sh {ok1 : Int} {k1 : ByteArray} {ws1 : List Wr} {ok2 : Int} {k2 : ByteArray} {ws2 : List Wr} (h1 : ok1 ≠ 5) (h2 : ok2 ≠ 5) (h : ∀ x ∈ nmsO ok1 k1 ws1, ∀ y ∈ nmsO ok2 k2 ws2, ¬ x = y) : sharesO ok1 k1 ws1 ok2 k2 ws2 = false := by
  cases hb : sharesO ok1 k1 ws1 ok2 k2 ws2 with
  | false => rfl
  | true =>
    exfalso
    unfold sharesO at hb
    split at hb
    · rename_i h6
      obtain ⟨x, hx, he⟩ := List.any_eq_true.1 hb
      exact h x.k (names_nms h1 (by unfold namesO; rw [if_pos h6]; exact List.any_eq_true.2 ⟨x, hx, decide_eq_true rfl⟩)) x.k (names_nms h2 he) rfl
    · rename_i h6
      exact h k1 (names_nms h1 (by unfold namesO; rw [if_neg h6]; exact decide_eq_true rfl)) k1 (names_nms h2 hb) rfl
def ApRes (w : World) (T : Prop) (e : Ending) (w' : World) : Prop := ∃ b, e = .returned (.bool b) ∧ (b = true → T) ∧ Turn No w w'
set_option maxRecDepth 100000 in
set_option maxHeartbeats 8000000 in
theorem apart_any (ok1 : Int) (k1 v1 o1 : ByteArray) (had1 aft1 : Bool) (A1 : Option Addr) (cap1 : Nat) (ws1 : List Wr) (ok2 : Int) (k2 v2 o2 : ByteArray) (had2 aft2 : Bool) (A2 : Option Addr) (cap2 : Nat) (ws2 : List Wr) (w : World) (hw1 : ws1.length ≤ 100000) (hR1 : Row w A1 (wcs ws1)) (hw2 : ws2.length ≤ 100000) (hR2 : Row w A2 (wcs ws2)) :
    Calls Try.prog 23 #[.agg #[.int .u8 ok1, .string k1, .string v1, .string o1, .bool had1, .bool aft1, .slice A1 ws1.length cap1], .agg #[.int .u8 ok2, .string k2, .string v2, .string o2, .bool had2, .bool aft2, .slice A2 ws2.length cap2]] w fun e w' => ApRes w (ok1 ≠ 5 ∧ ok2 ≠ 5 ∧ sharesO ok1 k1 ws1 ok2 k2 ws2 = false) e w' := by
  have t1 : Turn No w (w.alloc (.cells #[.int .u8 ok1, .string k1, .string v1, .string o1, .bool had1, .bool aft1, .slice A1 ws1.length cap1] 34)) := (Turn.refl _ _).alloc _
  have t2 : Turn No (w.alloc (.cells #[.int .u8 ok1, .string k1, .string v1, .string o1, .bool had1, .bool aft1, .slice A1 ws1.length cap1] 34)) ((w.alloc (.cells #[.int .u8 ok1, .string k1, .string v1, .string o1, .bool had1, .bool aft1, .slice A1 ws1.length cap1] 34)).alloc (.cells #[.int .u8 ok2, .string k2, .string v2, .string o2, .bool had2, .bool aft2, .slice A2 ws2.length cap2] 34)) := (Turn.refl _ _).alloc _
  have a1 := (At.new w (.cells #[.int .u8 ok1, .string k1, .string v1, .string o1, .bool had1, .bool aft1, .slice A1 ws1.length cap1] 34)).no t2
  have a2 := At.new (w.alloc (.cells #[.int .u8 ok1, .string k1, .string v1, .string o1, .bool had1, .bool aft1, .slice A1 ws1.length cap1] 34)) (.cells #[.int .u8 ok2, .string k2, .string v2, .string o2, .bool had2, .bool aft2, .slice A2 ws2.length cap2] 34)
  rw [World.size_alloc] at a2
  have HB := Lib.hid (And.intro (t1.trans t2) (And.intro a1 a2))
  have C55 : Hid (∀ W, Turn No w W → (Calls Try.prog 55 #[.agg #[.int .u8 ok1, .string k1, .string v1, .string o1, .bool had1, .bool aft1, .slice A1 ws1.length cap1]] W fun e w' => ∃ (K : List ByteArray) (B : Option Addr) (c : Nat), e = .returned (.tuple #[.slice B K.length c, .bool (decide (ok1 ≠ 5))]) ∧ K = nmsO ok1 k1 ws1 ∧ Ks W w' K B c) ∧ Calls Try.prog 55 #[.agg #[.int .u8 ok2, .string k2, .string v2, .string o2, .bool had2, .bool aft2, .slice A2 ws2.length cap2]] W fun e w' => ∃ (K : List ByteArray) (B : Option Addr) (c : Nat), e = .returned (.tuple #[.slice B K.length c, .bool (decide (ok2 ≠ 5))]) ∧ K = nmsO ok2 k2 ws2 ∧ Ks W w' K B c) := Lib.hid fun W t => ⟨names_any ok1 k1 v1 o1 had1 aft1 A1 cap1 ws1 W hw1 (hR1.no t), names_any ok2 k2 v2 o2 had2 aft2 A2 cap2 ws2 W hw2 (hR2.no t)⟩
  have HW := Lib.hid (And.intro hw1 hw2)
  obtain ⟨d1, hd1⟩ : ∃ d, decide (ok1 ≠ 5) = d := ⟨_, rfl⟩
  obtain ⟨d2, hd2⟩ : ∃ d, decide (ok2 ≠ 5) = d := ⟨_, rfl⟩
  have HD := Lib.hid (And.intro hd1 hd2)
  rw [hd1, hd2] at C55
  clear t1 t2 a1 a2 hR1 hR2 hw1 hw2 hd1 hd2
  go_enter Try.func23, Try.ntmps23
  go_upto_region 1 with fail
  try rw [World.size_alloc]
  generalize (w.alloc (.cells #[.int .u8 ok1, .string k1, .string v1, .string o1, .bool had1, .bool aft1, .slice A1 ws1.length cap1] 34)).alloc (.cells #[.int .u8 ok2, .string k2, .string v2, .string o2, .bool had2, .bool aft2, .slice A2 ws2.length cap2] 34) = wb at HB ⊢
  generalize w.heap.size + 1 = g2 at HB ⊢
  generalize w.heap.size = g1 at HB ⊢
  have CSS : Hid (∀ W g, At W g (.cells #[.int .u8 ok1, .string k1, .string v1, .string o1, .bool had1, .bool aft1, .slice A1 ws1.length cap1] 34 (0, 0)) → W.cell? ⟨g, 0, none⟩ = some (.int .u8 ok1) ∧ W.cell? ⟨g, 1, none⟩ = some (.string k1) ∧ W.cell? ⟨g, 2, none⟩ = some (.string v1) ∧ W.cell? ⟨g, 3, none⟩ = some (.string o1) ∧ W.cell? ⟨g, 4, none⟩ = some (.bool had1) ∧ W.cell? ⟨g, 5, none⟩ = some (.bool aft1) ∧ W.cell? ⟨g, 6, none⟩ = some (.slice A1 ws1.length cap1)) := Lib.hid fun W g h => ⟨h.cell 0, h.cell 1, h.cell 2, h.cell 3, h.cell 4, h.cell 5, h.cell 6⟩
  have CST : Hid (∀ W g, At W g (.cells #[.int .u8 ok2, .string k2, .string v2, .string o2, .bool had2, .bool aft2, .slice A2 ws2.length cap2] 34 (0, 0)) → W.cell? ⟨g, 0, none⟩ = some (.int .u8 ok2) ∧ W.cell? ⟨g, 1, none⟩ = some (.string k2) ∧ W.cell? ⟨g, 2, none⟩ = some (.string v2) ∧ W.cell? ⟨g, 3, none⟩ = some (.string o2) ∧ W.cell? ⟨g, 4, none⟩ = some (.bool had2) ∧ W.cell? ⟨g, 5, none⟩ = some (.bool aft2) ∧ W.cell? ⟨g, 6, none⟩ = some (.slice A2 ws2.length cap2)) := Lib.hid fun W g h => ⟨h.cell 0, h.cell 1, h.cell 2, h.cell 3, h.cell 4, h.cell 5, h.cell 6⟩
  obtain ⟨e0, e1, e2, e3, e4, e5, e6⟩ := CSS.out wb g1 HB.out.2.1
  go_upto_region 2 with (go_at_call 55; (with_reducible refine (C55.out _ HB.out.1).1.mono ?_); rintro e w3 ⟨K, B, c, rfl, hk, ht⟩; have H3 := Lib.hid (And.intro hk ht); clear hk ht)
  clear e0 e1 e2 e3 e4 e5 e6
  obtain ⟨e0, e1, e2, e3, e4, e5, e6⟩ := CST.out w3 g2 (HB.out.2.2.no H3.out.2.tu)
  have T3 := Lib.hid (HB.out.1.trans H3.out.2.tu)
  go_upto_region 3 with (go_at_call 55; (with_reducible refine (C55.out _ T3.out).2.mono ?_); rintro e w4 ⟨L, B4, c4, rfl, hk, ht⟩; have H4 := Lib.hid (And.intro hk ht); clear hk ht)
  clear e0 e1 e2 e3 e4 e5 e6 CSS CST C55
  have HR4 : Hid (Row w4 B (kcs K) ∧ Row w4 B4 (kcs L) ∧ Turn No w w4) := Lib.hid ⟨(row_of_own H3.out.2.row).no H4.out.2.tu, row_of_own H4.out.2.row, T3.out.trans H4.out.2.tu⟩
  have HKL : Hid (K = nmsO ok1 k1 ws1 ∧ L = nmsO ok2 k2 ws2) := Lib.hid ⟨H3.out.1, H4.out.1⟩
  have hk1 : K.length ≤ 200000 := by have h1 := nmsO_len ok1 k1 ws1; have h2 := HW.out; rw [HKL.out.1]; omega
  have hl1 : L.length ≤ 200000 := by have h1 := nmsO_len ok2 k2 ws2; have h2 := HW.out; rw [HKL.out.2]; omega
  clear H3 H4 T3 HB
  go_wp2_with fail
  go_loopw [9] (fun x wr => ∃ i : Nat, i ≤ K.length ∧ x = .int .i64 (i : Int) ∧ Hid (Turn No w4 wr ∧ ∀ x ∈ K.take i, ∀ y ∈ L, ¬ x = y)) (fun x _ => K.length - (RowKit.intOf x).toNat)
  case atStart => exact ⟨0, Nat.zero_le _, rfl, Lib.hid ⟨Turn.refl _ _, by simp⟩⟩
  case round =>
    obtain ⟨i, hi, rfl, HP⟩ := hrel
    by_cases hlt : i < K.length
    · obtain ⟨x, hx⟩ : ∃ x, K[i]? = some x := ⟨K[i], List.getElem?_eq_getElem hlt⟩
      have HX : Hid ((∀ y ∈ L, ¬ x = y) → ∀ x ∈ K.take (i + 1), ∀ y ∈ L, ¬ x = y) := Lib.hid fun h z hz y hy => by
        rw [List.take_add_one, hx] at hz
        rcases List.mem_append.1 hz with hz | hz
        · exact HP.out.2 z hz y hy
        · simp at hz
          subst hz
          exact h y hy
      obtain ⟨b1, f1, hB1, _⟩ := kcs_get HR4.out.1 hx
      have HXG := Lib.hid hx
      have hq1 : (0 : Int) ≤ (i : Int) := by omega
      have hq2 : (i : Int) < (K.length : Int) := by omega
      clear hx
      go_upto_region 7 with fail
      go_loopw [10] (fun x2 wx => ∃ j : Nat, j ≤ L.length ∧ x2 = .int .i64 (j : Int) ∧ Hid (Turn No w4 wx ∧ ∀ y ∈ L.take j, ¬ x = y)) (fun x2 _ => L.length - (RowKit.intOf x2).toNat)
      case atStart => exact ⟨0, Nat.zero_le _, rfl, Lib.hid ⟨HP.out.1, by simp⟩⟩
      case round =>
        obtain ⟨j, hj, rfl, HQ⟩ := hrel
        by_cases hlj : j < L.length
        · obtain ⟨y, hy⟩ : ∃ y, L[j]? = some y := ⟨L[j], List.getElem?_eq_getElem hlj⟩
          obtain ⟨b3, f3, hB3, x0⟩ := kcs_get (HR4.out.1.no HQ.out.1) HXG.out
          obtain ⟨b2, f2, hB2, y0⟩ := kcs_get (HR4.out.2.1.no HQ.out.1) hy
          have HY : Hid (¬ x = y → ∀ z ∈ L.take (j + 1), ¬ x = z) := Lib.hid fun h z hz => by
            rw [List.take_add_one, hy] at hz
            rcases List.mem_append.1 hz with hz | hz
            · exact HQ.out.2 z hz
            · simp at hz
              subst hz
              exact h
          have HT := Lib.hid HQ.out.1
          have HT4 := Lib.hid HR4.out.2.2
          clear hB1
          subst hB3 hB2
          have hp1 : (0 : Int) ≤ (j : Int) := by omega
          have hp2 : (j : Int) < (L.length : Int) := by omega
          have qe := bytes_beq x y
          clear hy HQ HR4
          by_cases he : x = y
          · rw [decide_eq_true he] at qe
            clear he HY
            go_wp2_with fail
            go_quiet (fail)
            all_goals go_wp2_with fail
            all_goals go_ret
            all_goals exact ⟨false, rfl, (fun h => by cases h), HT4.out.trans (by first | exact HT.out.drewN _ | exact HT.out.drew)⟩
          · have HYY := Lib.hid (HY.out he)
            rw [decide_eq_false he] at qe
            clear he HY
            go_wp2_with fail
            go_quiet (fail)
            all_goals go_wp2_with fail
            all_goals exact ⟨⟨j + 1, by omega, by go_num, Lib.hid ⟨by first | exact HT.out.drewN _ | exact HT.out.drew, HYY.out⟩⟩, by simp [RowKit.intOf]; omega⟩
        · obtain rfl : j = L.length := by omega
          have HE := Lib.hid (HX.out (by have := HQ.out.2; rw [List.take_length] at this; exact this))
          have HT := Lib.hid HQ.out.1
          clear HQ HX
          go_wp2_with fail
          exact ⟨⟨i + 1, by omega, by go_num, Lib.hid ⟨HT.out, HE.out⟩⟩, by simp [RowKit.intOf]; omega⟩
    · obtain rfl : i = K.length := by omega
      have HE : Hid (d1 = true → d2 = true → ok1 ≠ 5 ∧ ok2 ≠ 5 ∧ sharesO ok1 k1 ws1 ok2 k2 ws2 = false) := Lib.hid fun h1 h2 => by
        have h3 := of_decide_eq_true (HD.out.1.trans h1)
        have h4 := of_decide_eq_true (HD.out.2.trans h2)
        have h5 := HP.out.2
        rw [List.take_length, HKL.out.1, HKL.out.2] at h5
        exact ⟨h3, h4, apart_sh h3 h4 h5⟩
      have HT := Lib.hid (HR4.out.2.2.trans HP.out.1)
      clear HP
      cases d1 with
      | false =>
        go_wp2_with fail
        go_ret
        exact ⟨false, rfl, (fun h => by cases h), HT.out⟩
      | true =>
        cases d2 with
        | false =>
          go_wp2_with fail
          go_ret
          exact ⟨false, rfl, (fun h => by cases h), HT.out⟩
        | true =>
          go_wp2_with fail
          go_ret
          exact ⟨true, rfl, (fun _ => by first | exact HE.out rfl rfl | exact HE.out trivial trivial), HT.out⟩
end Go.Proofs.Ytllppkfeiifklaa
