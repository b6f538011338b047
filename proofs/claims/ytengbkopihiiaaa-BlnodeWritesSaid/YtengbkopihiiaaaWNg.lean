/-
  The law's equal.
-/
import Derived.Test.YtengbkopihiiaaaWNf
namespace Go.Proofs.Ytengbkopihiiaaa
open Go.RowKit Go.Lib
set_option linter.unusedVariables false
set_option maxRecDepth 20000
set_option maxRecDepth 20000
set_option linter.unusedSimpArgs false

def hnEq (s1 s2 g1 g2 : Int) : Bool := decide (s1 = s2) && decide (g1 = g2)
theorem hnEq_iff {a b : Hn} : hnEq a.slot b.slot a.gen b.gen = true ↔ a = b := by
  obtain ⟨s, g⟩ := a
  obtain ⟨t, h⟩ := b
  simp [hnEq]
theorem hnEq_same (s g : Int) : hnEq s s g g = true := by simp [hnEq]
set_option maxRecDepth 10000 in
theorem eql_hn (s1 s2 g1 g2 : Int) (w : World) : (binOp .eql 27 (.agg #[.int .i64 s1, .int .u64 g1]) (.agg #[.int .i64 s2, .int .u64 g2])).run Try.prog w = .ok (.bool (hnEq s1 s2 g1 g2)) w := by
  rw [run_eql_struct]
  rw [show (10000 : Nat) = 9998 + 1 + 1 from rfl, run_equalIn_struct (P := Try.prog) w (9998 + 1) 27 #[.int .i64 s1, .int .u64 g1] #[.int .i64 s2, .int .u64 g2] (by kernel_rfl) (by kernel_rfl)]
  simp only [Program.fieldsOf, Try.underlying27]
  rw [eqf_cons (by decide) (by rfl) (by rfl) (run_equalIn_int w 9998 3 .i64 .i64 s1 s2 (by kernel_rfl)),
    eqf_cons (by decide) (by rfl) (by rfl) (run_equalIn_int w 9998 25 .u64 .u64 g1 g2 (by kernel_rfl)), eqf_nil]
  unfold hnEq
  by_cases a1 : s1 = s2 <;> by_cases a2 : g1 = g2 <;> simp [a1, a2, Result.andThen]
set_option maxRecDepth 10000 in
theorem neq_hn (s1 s2 g1 g2 : Int) (w : World) : (binOp .neq 27 (.agg #[.int .i64 s1, .int .u64 g1]) (.agg #[.int .i64 s2, .int .u64 g2])).run Try.prog w = .ok (.bool (!hnEq s1 s2 g1 g2)) w := by
  rw [run_neq_struct]
  rw [show (10000 : Nat) = 9998 + 1 + 1 from rfl, run_equalIn_struct (P := Try.prog) w (9998 + 1) 27 #[.int .i64 s1, .int .u64 g1] #[.int .i64 s2, .int .u64 g2] (by kernel_rfl) (by kernel_rfl)]
  simp only [Program.fieldsOf, Try.underlying27]
  rw [eqf_cons (by decide) (by rfl) (by rfl) (run_equalIn_int w 9998 3 .i64 .i64 s1 s2 (by kernel_rfl)),
    eqf_cons (by decide) (by rfl) (by rfl) (run_equalIn_int w 9998 25 .u64 .u64 g1 g2 (by kernel_rfl)), eqf_nil]
  unfold hnEq
  by_cases a1 : s1 = s2 <;> by_cases a2 : g1 = g2 <;> simp [a1, a2, Result.andThen]
theorem hcs_length (l : List Hn) : (hcs l).length = l.length * 2 := flat_length _ 2 (fun _ => rfl) l
theorem hcs_at {l : List Hn} {j : Nat} {x : Hn} (h : l[j]? = some x) (i : Nat) (hi : i < 2) : (hcs l)[j * 2 + i]? = x.cs[i]? := flat_at _ 2 (fun _ => rfl) l j i x h hi
theorem hcs_append (l m : List Hn) : hcs (l ++ m) = hcs l ++ hcs m := List.flatMap_append ..
theorem Row.hn {w : World} {A : Option Addr} {l : List Hn} (h : Row w A (hcs l)) {j : Nat} {x : Hn} (hj : l[j]? = some x) :
    ∃ b o, A = some ⟨b, o, none⟩ ∧ w.cell? ⟨b, o + j * 2, none⟩ = some (.int .i64 x.slot) ∧ w.cell? ⟨b, o + j * 2 + 1, none⟩ = some (.int .u64 x.gen) := by
  obtain ⟨b, o, hA, hb, h0⟩ := h (j * 2 + 0) (.int .i64 x.slot) (by rw [hcs_at hj 0 (by decide)]; rfl)
  obtain ⟨b', o', hA', _, h1⟩ := h (j * 2 + 1) (.int .u64 x.gen) (by rw [hcs_at hj 1 (by decide)]; rfl)
  rw [hA] at hA'
  injection hA' with hA'
  injection hA' with e1 e2
  subst e1 e2
  exact ⟨b, o, hA, h0, h1⟩
theorem take_eqH {K L : List Hn} {i : Nat} {x y : Hn} (hx : K[i]? = some x) (hy : L[i]? = some y) (h : K.take i = L.take i) : K.take (i + 1) = L.take (i + 1) ↔ x = y := by
  rw [List.take_add_one, List.take_add_one, hx, hy, h]
  simp
/-- All the parts of two nodes, alike. -/
def EqP (l1 l2 : Bool) (K1 K2 V1 V2 : List ByteArray) (D1 D2 : List Hn) (h1 h2 : ByteArray) (b1 b2 : Bool) (s1 g1 s2 g2 : Int) : Prop := D1 = D2 ∧ l1 = l2 ∧ h1 = h2 ∧ b1 = b2 ∧ (s1 = s2 ∧ g1 = g2) ∧ K1 = K2 ∧ V1 = V2
set_option maxRecDepth 100000 in
set_option maxHeartbeats 16000000 in
theorem equal_any (l1 l2 : Bool) (K1 K2 V1 V2 : List ByteArray) (D1 D2 : List Hn) (h1 h2 : ByteArray) (b1 b2 : Bool) (s1 g1 s2 g2 : Int) (AK AV AD BK BV BD : Option Addr) (ck cv cd dk dv dd : Nat) (w : World)
    (hK1 : Row w AK (kcs K1)) (hV1 : Row w AV (kcs V1)) (hD1 : Row w AD (hcs D1)) (hK2 : Row w BK (kcs K2)) (hV2 : Row w BV (kcs V2)) (hD2 : Row w BD (hcs D2)) (n1 : K1.length ≤ 100000) (n2 : V1.length ≤ 100000) (n3 : D1.length ≤ 100000) :
    Calls Try.prog 18 #[.agg #[.bool l1, .slice AK K1.length ck, .slice AV V1.length cv, .slice AD D1.length cd, .string h1, .bool b1, .int .i64 s1, .int .u64 g1], .agg #[.bool l2, .slice BK K2.length dk, .slice BV V2.length dv, .slice BD D2.length dd, .string h2, .bool b2, .int .i64 s2, .int .u64 g2]] w fun e w' => BRes (EqP l1 l2 K1 K2 V1 V2 D1 D2 h1 h2 b1 b2 s1 g1 s2 g2) w e w' := by
  have t1 : Turn No w (w.alloc (.cells #[.bool l1, .slice AK K1.length ck, .slice AV V1.length cv, .slice AD D1.length cd, .string h1, .bool b1, .int .i64 s1, .int .u64 g1] 29)) := (Turn.refl _ _).alloc _
  have t2 : Turn No (w.alloc (.cells #[.bool l1, .slice AK K1.length ck, .slice AV V1.length cv, .slice AD D1.length cd, .string h1, .bool b1, .int .i64 s1, .int .u64 g1] 29)) ((w.alloc (.cells #[.bool l1, .slice AK K1.length ck, .slice AV V1.length cv, .slice AD D1.length cd, .string h1, .bool b1, .int .i64 s1, .int .u64 g1] 29)).alloc (.cells #[.bool l2, .slice BK K2.length dk, .slice BV V2.length dv, .slice BD D2.length dd, .string h2, .bool b2, .int .i64 s2, .int .u64 g2] 29)) := (Turn.refl _ _).alloc _
  have a1 := (At.new w (.cells #[.bool l1, .slice AK K1.length ck, .slice AV V1.length cv, .slice AD D1.length cd, .string h1, .bool b1, .int .i64 s1, .int .u64 g1] 29)).no t2
  have a2 := At.new (w.alloc (.cells #[.bool l1, .slice AK K1.length ck, .slice AV V1.length cv, .slice AD D1.length cd, .string h1, .bool b1, .int .i64 s1, .int .u64 g1] 29)) (.cells #[.bool l2, .slice BK K2.length dk, .slice BV V2.length dv, .slice BD D2.length dd, .string h2, .bool b2, .int .i64 s2, .int .u64 g2] 29)
  rw [World.size_alloc] at a2
  have HB := Lib.hid (And.intro (t1.trans t2) (And.intro a1 a2))
  have HR := Lib.hid (And.intro (And.intro (hK1.no (t1.trans t2)) (And.intro (hV1.no (t1.trans t2)) (hD1.no (t1.trans t2)))) (And.intro (hK2.no (t1.trans t2)) (And.intro (hV2.no (t1.trans t2)) (hD2.no (t1.trans t2)))))
  obtain ⟨P, hP⟩ : ∃ x, EqP l1 l2 K1 K2 V1 V2 D1 D2 h1 h2 b1 b2 s1 g1 s2 g2 = x := ⟨_, rfl⟩
  have HP : Hid (P ↔ D1 = D2 ∧ l1 = l2 ∧ h1 = h2 ∧ b1 = b2 ∧ (s1 = s2 ∧ g1 = g2) ∧ K1 = K2 ∧ V1 = V2) := Lib.hid (by rw [← hP]; exact Iff.rfl)
  rw [hP]
  clear t1 t2 a1 a2 hK1 hV1 hD1 hK2 hV2 hD2 hP
  go_enter Try.func18, Try.ntmps18
  go_upto_region 1 with fail
  try rw [World.size_alloc]
  generalize ((w.alloc (.cells #[.bool l1, .slice AK K1.length ck, .slice AV V1.length cv, .slice AD D1.length cd, .string h1, .bool b1, .int .i64 s1, .int .u64 g1] 29)).alloc (.cells #[.bool l2, .slice BK K2.length dk, .slice BV V2.length dv, .slice BD D2.length dd, .string h2, .bool b2, .int .i64 s2, .int .u64 g2] 29)) = wb at HB HR ⊢
  generalize w.heap.size + 1 = ga2 at HB ⊢
  generalize w.heap.size = ga1 at HB ⊢
  have CS1 : Hid (∀ W, Turn No wb W → W.cell? ⟨ga1, 0, none⟩ = some (.bool l1) ∧ W.cell? ⟨ga1, 1, none⟩ = some (.slice AK K1.length ck) ∧ W.cell? ⟨ga1, 2, none⟩ = some (.slice AV V1.length cv) ∧ W.cell? ⟨ga1, 3, none⟩ = some (.slice AD D1.length cd) ∧ W.cell? ⟨ga1, 4, none⟩ = some (.string h1) ∧ W.cell? ⟨ga1, 5, none⟩ = some (.bool b1) ∧ W.cell? ⟨ga1, 6, none⟩ = some (.int .i64 s1) ∧ W.cell? ⟨ga1, 7, none⟩ = some (.int .u64 g1)) := Lib.hid fun W t => by
    have h := HB.out.2.1.no t
    exact ⟨h.cell 0, h.cell 1, h.cell 2, h.cell 3, h.cell 4, h.cell 5, h.cell 6, h.cell 7⟩
  have CS2 : Hid (∀ W, Turn No wb W → W.cell? ⟨ga2, 0, none⟩ = some (.bool l2) ∧ W.cell? ⟨ga2, 1, none⟩ = some (.slice BK K2.length dk) ∧ W.cell? ⟨ga2, 2, none⟩ = some (.slice BV V2.length dv) ∧ W.cell? ⟨ga2, 3, none⟩ = some (.slice BD D2.length dd) ∧ W.cell? ⟨ga2, 4, none⟩ = some (.string h2) ∧ W.cell? ⟨ga2, 5, none⟩ = some (.bool b2) ∧ W.cell? ⟨ga2, 6, none⟩ = some (.int .i64 s2) ∧ W.cell? ⟨ga2, 7, none⟩ = some (.int .u64 g2)) := Lib.hid fun W t => by
    have h := HB.out.2.2.no t
    exact ⟨h.cell 0, h.cell 1, h.cell 2, h.cell 3, h.cell 4, h.cell 5, h.cell 6, h.cell 7⟩
  have CK : Hid (∀ W, Turn No wb W → Calls Try.prog 19 #[.slice AK K1.length ck, .slice BK K2.length dk] W fun e w' => BRes (K1 = K2) W e w') := Lib.hid fun W t => sameS_any K1 K2 AK BK ck dk W (HR.out.1.1.no t) (HR.out.2.1.no t) n1
  have CV : Hid (∀ W, Turn No wb W → Calls Try.prog 19 #[.slice AV V1.length cv, .slice BV V2.length dv] W fun e w' => BRes (V1 = V2) W e w') := Lib.hid fun W t => sameS_any V1 V2 AV BV cv dv W (HR.out.1.2.1.no t) (HR.out.2.2.1.no t) n2
  have TB := Lib.hid HB.out.1
  obtain ⟨e0, e1, e2, e3, e4, e5, e6, e7⟩ := CS1.out wb (Turn.refl _ _)
  obtain ⟨f0, f1, f2, f3, f4, f5, f6, f7⟩ := CS2.out wb (Turn.refl _ _)
  by_cases hne : D1.length = D2.length
  · have HLE := Lib.hid hne
    rw [← hne] at f3
    have hq : (D1.length : Int) = (D1.length : Int) := rfl
    clear hq hne
    go_upto_region 4 with fail
    clear e0 e1 e2 e3 e4 e5 e6 e7 f0 f1 f2 f3 f4 f5 f6 f7
    go_loopw [5] (fun x wr => ∃ i : Nat, i ≤ D1.length ∧ x = .int .i64 (i : Int) ∧ Hid (Turn No wb wr ∧ D1.take i = D2.take i)) (fun x _ => D1.length - (RowKit.intOf x).toNat)
    case atStart => exact ⟨0, Nat.zero_le _, rfl, Lib.hid ⟨Turn.refl _ _, by simp⟩⟩
    case round =>
      obtain ⟨i, hi, rfl, HW⟩ := hrel
      obtain ⟨e0, e1, e2, e3, e4, e5, e6, e7⟩ := CS1.out wr HW.out.1
      obtain ⟨f0, f1, f2, f3, f4, f5, f6, f7⟩ := CS2.out wr HW.out.1
      by_cases hlt : i < D1.length
      · obtain ⟨x, hx⟩ : ∃ t, D1[i]? = some t := ⟨D1[i], List.getElem?_eq_getElem hlt⟩
        obtain ⟨y, hy⟩ : ∃ t, D2[i]? = some t := ⟨D2[i]'(by rw [← HLE.out]; exact hlt), List.getElem?_eq_getElem _⟩
        obtain ⟨p1, o1, hB, x0, x1⟩ := (HR.out.1.2.2.no HW.out.1).hn hx
        obtain ⟨p2, o2, hC, y0, y1⟩ := (HR.out.2.2.2.no HW.out.1).hn hy
        have HT := Lib.hid (take_eqH hx hy HW.out.2)
        have HN : Hid (D1 = D2 → x = y) := Lib.hid fun h => by rw [h, hy] at hx; injection hx with hx; exact hx.symm
        have HWW := Lib.hid HW.out.1
        rw [← HLE.out] at f3
        subst hB hC
        clear hx hy HW e0 e1 e2 e4 e5 e6 e7 f0 f1 f2 f4 f5 f6 f7
        obtain ⟨xs, xg⟩ := x
        obtain ⟨ys, yg⟩ := y
        simp only at x0 x1 y0 y1
        have hq1 : (0 : Int) ≤ (i : Int) := by omega
        have hq2 : (i : Int) < (D1.length : Int) := by omega
        have qn := fun W => neq_hn xs ys xg yg W
        by_cases he : hnEq xs ys xg yg = true
        · have HE := Lib.hid (HT.out.2 (hnEq_iff (a := ⟨xs, xg⟩) (b := ⟨ys, yg⟩) |>.1 he))
          rw [he] at qn
          clear he
          go_wp2_with fail
          go_quiet (fail)
          all_goals go_wp2_with fail
          all_goals exact ⟨⟨i + 1, by omega, by go_num, Lib.hid ⟨by first | exact HWW.out.drewN _ | exact HWW.out.drew, HE.out⟩⟩, by simp [RowKit.intOf]; omega⟩
        · have HE : Hid (¬ P) := Lib.hid fun h => he (hnEq_iff (a := ⟨xs, xg⟩) (b := ⟨ys, yg⟩) |>.2 (HN.out (HP.out.1 h).1))
          have hf : hnEq xs ys xg yg = false := by simpa using he
          rw [hf] at qn
          clear he hf
          go_wp2_with fail
          go_quiet (fail)
          all_goals go_wp2_with fail
          all_goals go_ret
          all_goals exact BRes.of false rfl ⟨fun h => by (cases h), fun h => absurd h HE.out⟩ (TB.out.trans (by first | exact HWW.out.drewN _ | exact HWW.out.drew))
      · obtain rfl : i = D1.length := by omega
        have HD : Hid (D1 = D2) := Lib.hid (by
          have h := HW.out.2
          rw [List.take_length, HLE.out, List.take_length] at h
          exact h)
        have T0 := Lib.hid HW.out.1
        clear HW
        by_cases c1 : l1 = l2
        · subst c1
          by_cases c2 : h1 = h2
          · subst c2
            by_cases c3 : b1 = b2
            · subst c3
              have qn := fun W => eql_hn s1 s2 g1 g2 W
              by_cases c4 : s1 = s2 ∧ g1 = g2
              · obtain ⟨c5, c6⟩ := c4
                subst c5 c6
                rw [hnEq_same] at qn
                have qe := bytes_beq h1 h1
                rw [decide_eq_true rfl] at qe
                have HQ : Hid (P ↔ K1 = K2 ∧ V1 = V2) := Lib.hid ⟨fun h => (HP.out.1 h).2.2.2.2.2, fun h => HP.out.2 ⟨HD.out, rfl, rfl, rfl, ⟨rfl, rfl⟩, h⟩⟩
                go_wp2_with (go_at_call 19; (with_reducible refine (CK.out _ T0.out).mono ?_); rintro e w2 ⟨(_ | _), rfl, hbb, ht⟩ <;> have H2 := Lib.hid (And.intro hbb (T0.out.trans ht)) <;> clear hbb ht e0 e1 e2 e3 e4 e5 e6 e7 f0 f1 f2 f3 f4 f5 f6 f7 <;> obtain ⟨e0, e1, e2, e3, e4, e5, e6, e7⟩ := CS1.out w2 H2.out.2 <;> obtain ⟨f0, f1, f2, f3, f4, f5, f6, f7⟩ := CS2.out w2 H2.out.2)
                · have HE : Hid (¬ P) := Lib.hid fun h => by have := H2.out.1.2 (HQ.out.1 h).1; cases this
                  go_wp2_with fail
                  go_ret
                  exact BRes.of false rfl ⟨fun h => by (cases h), fun h => absurd h HE.out⟩ (TB.out.trans H2.out.2)
                · have HK : Hid (K1 = K2) := Lib.hid (by first | exact H2.out.1.1 rfl | exact H2.out.1.1 trivial)
                  go_wp2_with (go_at_call 19; (with_reducible refine (CV.out _ H2.out.2).mono ?_); rintro e w3 ⟨bb, rfl, hbb, ht⟩; have H3 := Lib.hid (And.intro hbb ht); clear hbb ht)
                  go_ret
                  exact BRes.of bb rfl ⟨fun h => HQ.out.2 ⟨HK.out, H3.out.1.1 h⟩, fun h => H3.out.1.2 (HQ.out.1 h).2⟩ (TB.out.trans (H2.out.2.trans H3.out.2))
              · have HE : Hid (¬ P) := Lib.hid fun h => c4 (HP.out.1 h).2.2.2.2.1
                have hf : hnEq s1 s2 g1 g2 = false := by
                  cases hb : hnEq s1 s2 g1 g2 with
                  | false => rfl
                  | true => have := hnEq_iff (a := ⟨s1, g1⟩) (b := ⟨s2, g2⟩) |>.1 hb; injection this with h1 h2; exact absurd ⟨h1, h2⟩ c4
                rw [hf] at qn
                have qe := bytes_beq h1 h1
                rw [decide_eq_true rfl] at qe
                clear hf c4
                go_wp2_with fail
                go_ret
                exact BRes.of false rfl ⟨fun h => by (cases h), fun h => absurd h HE.out⟩ (TB.out.trans T0.out)
            · have HE : Hid (¬ P) := Lib.hid fun h => c3 (HP.out.1 h).2.2.2.1
              have q : (b1 == b2) = false := by simpa using c3
              have qe := bytes_beq h1 h1
              rw [decide_eq_true rfl] at qe
              clear c3
              go_wp2_with fail
              go_ret
              exact BRes.of false rfl ⟨fun h => by (cases h), fun h => absurd h HE.out⟩ (TB.out.trans T0.out)
          · have HE : Hid (¬ P) := Lib.hid fun h => c2 (HP.out.1 h).2.2.1
            have qe := bytes_beq h1 h2
            rw [decide_eq_false c2] at qe
            clear c2
            go_wp2_with fail
            go_ret
            exact BRes.of false rfl ⟨fun h => by (cases h), fun h => absurd h HE.out⟩ (TB.out.trans T0.out)
        · have HE : Hid (¬ P) := Lib.hid fun h => c1 (HP.out.1 h).2.1
          have q : (l1 == l2) = false := by simpa using c1
          clear c1
          go_wp2_with fail
          go_ret
          exact BRes.of false rfl ⟨fun h => by (cases h), fun h => absurd h HE.out⟩ (TB.out.trans T0.out)
  · have hne' : ¬ (D1.length : Int) = (D2.length : Int) := by omega
    have HE : Hid (¬ P) := Lib.hid fun h => hne (by rw [(HP.out.1 h).1])
    clear hne
    go_wp2_with fail
    go_ret
    exact BRes.of false rfl ⟨fun h => by (cases h), fun h => absurd h HE.out⟩ TB.out
end Go.Proofs.Ytengbkopihiiaaa
