/-
  The law's right.
-/
import Derived.Test.YtengbkopihiiaaaWNe
namespace Go.Proofs.Ytengbkopihiiaaa
open Go.RowKit Go.Lib
set_option linter.unusedVariables false
set_option maxRecDepth 20000
set_option maxRecDepth 20000
set_option linter.unusedSimpArgs false

theorem emp_dec (a : ByteArray) : a.toList.isEmpty = decide (a = ⟨#[]⟩) := by
  rw [← bytes_beq]
  have h : (⟨#[]⟩ : ByteArray).toList = [] := by rw [ByteArray.toList_eq]
  rw [h]
  cases a.toList <;> rfl
theorem all_snoc {Q : ByteArray → Prop} {K : List ByteArray} {k : Nat} {x : ByteArray} (h : K[k]? = some x) : (∀ a ∈ K.take (k + 1), Q a) ↔ (∀ a ∈ K.take k, Q a) ∧ Q x := by
  rw [List.take_add_one, h]
  constructor
  · intro h1
    exact ⟨fun a ha => h1 a (List.mem_append.2 (.inl ha)), h1 x (by simp)⟩
  · rintro ⟨h1, h2⟩ a ha
    rcases List.mem_append.1 ha with h3 | h3
    · exact h1 a h3
    · simp at h3
      subst h3
      exact h2
set_option maxRecDepth 100000 in
set_option maxHeartbeats 8000000 in
theorem right_any (leaf : Bool) (K : List ByteArray) (nv nd : Nat) (high : ByteArray) (bnd : Bool) (slot gen : Int) (AK AV AD : Option Addr) (ck cv cd : Nat) (w : World) (hR : Row w AK (kcs K)) (hf : ∀ k ∈ K, Fit k) (hh : Fit high) (hl : K.length ≤ 100000) :
    Calls Try.prog 22 #[.agg #[.bool leaf, .slice AK K.length ck, .slice AV nv cv, .slice AD nd cd, .string high, .bool bnd, .int .i64 slot, .int .u64 gen]] w fun e w' => BRes (RightP leaf K nv nd high bnd) w e w' := by
  have HB : Hid (Turn No w (w.alloc (.cells #[.bool leaf, .slice AK K.length ck, .slice AV nv cv, .slice AD nd cd, .string high, .bool bnd, .int .i64 slot, .int .u64 gen] 29)) ∧ At (w.alloc (.cells #[.bool leaf, .slice AK K.length ck, .slice AV nv cv, .slice AD nd cd, .string high, .bool bnd, .int .i64 slot, .int .u64 gen] 29)) w.heap.size (.cells #[.bool leaf, .slice AK K.length ck, .slice AV nv cv, .slice AD nd cd, .string high, .bool bnd, .int .i64 slot, .int .u64 gen] 29 (0, 0))) := Lib.hid ⟨(Turn.refl _ _).alloc _, At.new _ _⟩
  have HR := Lib.hid (And.intro (hR.no HB.out.1) (And.intro hf hh))
  have C28 := Lib.hid (rises_any K AK ck _ (hR.no HB.out.1) hf hl)
  clear hR hf hh
  go_enter Try.func22, Try.ntmps22
  go_upto_region 1 with fail
  generalize w.alloc (.cells #[.bool leaf, .slice AK K.length ck, .slice AV nv cv, .slice AD nd cd, .string high, .bool bnd, .int .i64 slot, .int .u64 gen] 29) = w1 at HB HR C28 ⊢
  generalize w.heap.size = g at HB ⊢
  have CSS : Hid (∀ W, Turn No w1 W → W.cell? ⟨g, 0, none⟩ = some (.bool leaf) ∧ W.cell? ⟨g, 1, none⟩ = some (.slice AK K.length ck) ∧ W.cell? ⟨g, 2, none⟩ = some (.slice AV nv cv) ∧ W.cell? ⟨g, 3, none⟩ = some (.slice AD nd cd) ∧ W.cell? ⟨g, 4, none⟩ = some (.string high) ∧ W.cell? ⟨g, 5, none⟩ = some (.bool bnd)) := Lib.hid fun W t => ⟨(HB.out.2.no t).cell 0, (HB.out.2.no t).cell 1, (HB.out.2.no t).cell 2, (HB.out.2.no t).cell 3, (HB.out.2.no t).cell 4, (HB.out.2.no t).cell 5⟩
  obtain ⟨e0, e1, e2, e3, e4, e5⟩ := CSS.out w1 (Turn.refl _ _)
  have qe := emp_dec high
  obtain ⟨be, hbe⟩ : ∃ x, decide (high = ⟨#[]⟩) = x := ⟨_, rfl⟩
  rw [hbe] at qe
  have HBE : Hid (be = true ↔ high = ⟨#[]⟩) := Lib.hid (by rw [← hbe]; exact decide_eq_true_iff)
  clear hbe
  go_cut [17] from 4 to 17 (fun s wx => ∃ bb : Bool, s = .bool (!bb) ∧ Hid ((bb = true ↔ Rk K ∧ (bnd = false → high = ⟨#[]⟩)) ∧ Turn No w1 wx))
  case first =>
    cases bnd with
    | true =>
      go_wp2_with (go_at_call 28; (with_reducible refine C28.out.mono ?_); rintro e w2 ⟨(_ | _), rfl, hbb, ht⟩ <;> have H2 := Lib.hid (And.intro hbb ht) <;> clear hbb ht e0 e1 e2 e3 e4 e5 <;> obtain ⟨e0, e1, e2, e3, e4, e5⟩ := CSS.out w2 H2.out.2)
      · go_meet
        exact ⟨false, rfl, Lib.hid ⟨⟨fun h => by (cases h), fun h => by have := H2.out.1.2 h.1; cases this⟩, H2.out.2⟩⟩
      · go_meet
        exact ⟨true, rfl, Lib.hid ⟨⟨fun _ => ⟨by first | exact H2.out.1.1 rfl | exact H2.out.1.1 trivial, fun h => by cases h⟩, fun _ => rfl⟩, H2.out.2⟩⟩
    | false =>
      cases be with
      | true =>
        go_wp2_with (go_at_call 28; (with_reducible refine C28.out.mono ?_); rintro e w2 ⟨(_ | _), rfl, hbb, ht⟩ <;> have H2 := Lib.hid (And.intro hbb ht) <;> clear hbb ht e0 e1 e2 e3 e4 e5 <;> obtain ⟨e0, e1, e2, e3, e4, e5⟩ := CSS.out w2 H2.out.2)
        · go_meet
          exact ⟨false, rfl, Lib.hid ⟨⟨fun h => by (cases h), fun h => by have := H2.out.1.2 h.1; cases this⟩, H2.out.2⟩⟩
        · go_meet
          exact ⟨true, rfl, Lib.hid ⟨⟨fun _ => ⟨by first | exact H2.out.1.1 rfl | exact H2.out.1.1 trivial, fun _ => by first | exact HBE.out.1 rfl | exact HBE.out.1 trivial⟩, fun _ => rfl⟩, H2.out.2⟩⟩
      | false =>
        go_wp2_with (go_at_call 28; (with_reducible refine C28.out.mono ?_); rintro e w2 ⟨(_ | _), rfl, hbb, ht⟩ <;> have H2 := Lib.hid (And.intro hbb ht) <;> clear hbb ht e0 e1 e2 e3 e4 e5 <;> obtain ⟨e0, e1, e2, e3, e4, e5⟩ := CSS.out w2 H2.out.2)
        · go_meet
          exact ⟨false, rfl, Lib.hid ⟨⟨fun h => by (cases h), fun h => by have := H2.out.1.2 h.1; cases this⟩, H2.out.2⟩⟩
        · go_meet
          exact ⟨false, rfl, Lib.hid ⟨⟨fun h => by (cases h), fun h => by have := HBE.out.2 (by first | exact h.2 rfl | exact h.2 trivial); cases this⟩, H2.out.2⟩⟩
  case rest =>
    obtain ⟨bb, rfl, HC⟩ := hcut
    generalize wc = w2 at HC ⊢
    clear e0 e1 e2 e3 e4 e5 C28 qe HBE
    obtain ⟨e0, e1, e2, e3, e4, e5⟩ := CSS.out w2 HC.out.2
    cases bb with
    | false =>
      have HN : Hid (¬ RightP leaf K nv nd high bnd) := Lib.hid fun h => by have := HC.out.1.2 ⟨h.1, h.2.1⟩; cases this
      go_wp2_with fail
      go_ret
      exact BRes.of false rfl ⟨fun h => by (cases h), fun h => absurd h HN.out⟩ (HB.out.1.trans HC.out.2)
    | true =>
      have H12 : Hid (Rk K ∧ (bnd = false → high = ⟨#[]⟩)) := Lib.hid (by first | exact HC.out.1.1 rfl | exact HC.out.1.1 trivial)
      go_upto_region 4 with fail
      clear e0 e1 e2 e3 e4 e5
      go_loopw [3] (fun x wr => ∃ i : Nat, i ≤ K.length ∧ x = .int .i64 (i : Int) ∧ Hid (Turn No w1 wr ∧ (bnd = true → ∀ k ∈ K.take i, kl k high))) (fun x _ => K.length - (RowKit.intOf x).toNat)
      case atStart => exact ⟨0, Nat.zero_le _, rfl, Lib.hid ⟨HC.out.2, by simp⟩⟩
      case round =>
        obtain ⟨i, hi, rfl, HP⟩ := hrel
        obtain ⟨e0, e1, e2, e3, e4, e5⟩ := CSS.out wr HP.out.1
        have TW := Lib.hid (HB.out.1.trans HP.out.1)
        by_cases hgo : i < K.length ∧ bnd = true
        · obtain ⟨hlt, hbt⟩ := hgo
          subst hbt
          obtain ⟨x, hx⟩ : ∃ t, K[i]? = some t := ⟨K[i], List.getElem?_eq_getElem hlt⟩
          obtain ⟨bl, o, hB, hc⟩ := kcs_hold (HR.out.1.no HP.out.1) hx
          have HS := Lib.hid (all_snoc (Q := fun k => kl k high) hx)
          have HM : Hid (RightP leaf K nv nd high true → kl x high) := Lib.hid fun h => h.2.2.1 rfl x (List.mem_of_getElem? hx)
          have CL := Lib.hid fun (W : World) => lessT x high W (HR.out.2.1 x (List.mem_of_getElem? hx)) HR.out.2.2
          have hS1 : Hid (∀ W, Turn No wr W → W.cell? ⟨bl, o + i, none⟩ = some (.string x) ∧ W.cell? ⟨g, 1, none⟩ = some (.slice (some ⟨bl, o, none⟩) K.length ck) ∧ W.cell? ⟨g, 4, none⟩ = some (.string high)) := Lib.hid fun W t => ⟨hc W t, by rw [← hB]; exact (CSS.out W (HP.out.1.trans t)).2.1, (CSS.out W (HP.out.1.trans t)).2.2.2.2.1⟩
          have TD : Hid (Turn No wr wr.drew) := Lib.hid (Turn.refl No wr).drew
          have hS0 := hS1.out _ TD.out
          subst hB
          clear hx hc
          have hq1 : (0 : Int) ≤ (i : Int) := by omega
          have hq2 : (i : Int) < (K.length : Int) := by omega
          go_upto_region 6 with fail
          clear e0 e1 e2 e3 e4 e5
          go_cut [37] from 29 to 37 (fun s wx => ∃ bb : Bool, s = .bool (!bb) ∧ Hid ((bb = true ↔ kl x high) ∧ Turn No wr wx))
          case first =>
            go_region_held3 (fun W => W.cell? ⟨bl, o + i, none⟩ = some (.string x) ∧ W.cell? ⟨g, 1, none⟩ = some (.slice (some ⟨bl, o, none⟩) K.length ck) ∧ W.cell? ⟨g, 4, none⟩ = some (.string high)) (first | (with_reducible exact hS0) | (with_reducible exact hS1.out _ HY.out.2)) (first | (go_at_call 48; (with_reducible refine (CL.out _).mono ?_); rintro e wy ⟨bb, rfl, hbb, hy⟩; have HY := Lib.hid (And.intro hbb (TD.out.trans hy)); clear hbb hy))
            go_wp2_with fail
            go_meet
            exact ⟨bb, rfl, HY⟩
          case rest =>
            obtain ⟨bb, rfl, HY⟩ := hcut
            generalize wc = wy at HY ⊢
            clear hS0 hS1 CL TD
            cases bb with
            | true =>
              have HX : Hid (true = true → ∀ k ∈ K.take (i + 1), kl k high) := Lib.hid fun _ => HS.out.2 ⟨HP.out.2 rfl, by first | exact HY.out.1.1 rfl | exact HY.out.1.1 trivial⟩
              go_wp2_with fail
              exact ⟨⟨i + 1, by omega, by go_num, Lib.hid ⟨HP.out.1.trans HY.out.2, by first | exact HX.out | exact fun _ => HX.out rfl⟩⟩, by simp [RowKit.intOf]; omega⟩
            | false =>
              have HN : Hid (¬ RightP leaf K nv nd high true) := Lib.hid fun h => by have := HY.out.1.2 (HM.out h); cases this
              go_wp2_with fail
              go_ret
              exact BRes.of false rfl ⟨fun h => by (cases h), fun h => absurd h HN.out⟩ (TW.out.trans HY.out.2)
        · have H3 : Hid (bnd = true → ∀ k ∈ K, kl k high) := Lib.hid fun hb => by
            have h := HP.out.2 hb
            have : i = K.length := by
              by_cases h2 : i < K.length
              · exact absurd ⟨h2, hb⟩ hgo
              · omega
            rw [this, List.take_length] at h
            exact h
          have HEQ : Hid (RightP leaf K nv nd high bnd ↔ (leaf = true → nv = K.length ∧ nd = 0) ∧ (leaf = false → nv = 0 ∧ nd = K.length + 1)) := Lib.hid ⟨fun h => h.2.2.2, fun h => ⟨H12.out.1, H12.out.2, H3.out, h⟩⟩
          by_cases hlt : i < K.length
          · have hbf : bnd = false := by
              cases bnd with
              | false => rfl
              | true => exact absurd ⟨hlt, rfl⟩ hgo
            subst hbf
            have hq2 : (i : Int) < (K.length : Int) := by omega
            clear hgo
            go_upto_if 39 with fail
            cases leaf with
            | true =>
              by_cases h1 : nv = K.length
              · subst h1
                by_cases h2 : nd = 0
                · subst h2
                  have HF : Hid (RightP true K K.length 0 high false) := Lib.hid (HEQ.out.2 ⟨fun _ => ⟨rfl, rfl⟩, fun h => by (cases h)⟩)
                  go_wp2_with fail
                  go_ret
                  exact BRes.of true rfl ⟨fun _ => HF.out, fun _ => rfl⟩ TW.out
                · have HF : Hid (¬ RightP true K K.length nd high false) := Lib.hid fun h => h2 ((HEQ.out.1 h).1 rfl).2
                  have q2 : ((nd : Int) == 0) = false := by simp; omega
                  go_wp2_with fail
                  go_ret
                  exact BRes.of false rfl ⟨fun h => by (cases h), fun h => absurd h HF.out⟩ TW.out
              · have HF : Hid (¬ RightP true K nv nd high false) := Lib.hid fun h => h1 ((HEQ.out.1 h).1 rfl).1
                have q2 : ((nv : Int) == (K.length : Int)) = false := by simp; omega
                go_wp2_with fail
                go_ret
                exact BRes.of false rfl ⟨fun h => by (cases h), fun h => absurd h HF.out⟩ TW.out
            | false =>
              by_cases h1 : nv = 0
              · subst h1
                by_cases h2 : nd = K.length + 1
                · subst h2
                  have HF : Hid (RightP false K 0 (K.length + 1) high false) := Lib.hid (HEQ.out.2 ⟨fun h => by (cases h), fun _ => ⟨rfl, rfl⟩⟩)
                  have q2 : (((K.length + 1 : Nat) : Int) == (K.length : Int) + 1) = true := by simp
                  go_wp2_with fail
                  go_ret
                  exact BRes.of true rfl ⟨fun _ => HF.out, fun _ => rfl⟩ TW.out
                · have HF : Hid (¬ RightP false K 0 nd high false) := Lib.hid fun h => h2 ((HEQ.out.1 h).2 rfl).2
                  have q2 : ((nd : Int) == (K.length : Int) + 1) = false := by simp; omega
                  go_wp2_with fail
                  go_ret
                  exact BRes.of false rfl ⟨fun h => by (cases h), fun h => absurd h HF.out⟩ TW.out
              · have HF : Hid (¬ RightP false K nv nd high false) := Lib.hid fun h => h1 ((HEQ.out.1 h).2 rfl).1
                have q2 : ((nv : Int) == 0) = false := by simp; omega
                go_wp2_with fail
                go_ret
                exact BRes.of false rfl ⟨fun h => by (cases h), fun h => absurd h HF.out⟩ TW.out
          · have hq2 : ¬ (i : Int) < (K.length : Int) := by omega
            clear hgo
            go_upto_if 39 with fail
            cases leaf with
            | true =>
              by_cases h1 : nv = K.length
              · subst h1
                by_cases h2 : nd = 0
                · subst h2
                  have HF : Hid (RightP true K K.length 0 high bnd) := Lib.hid (HEQ.out.2 ⟨fun _ => ⟨rfl, rfl⟩, fun h => by (cases h)⟩)
                  go_wp2_with fail
                  go_ret
                  exact BRes.of true rfl ⟨fun _ => HF.out, fun _ => rfl⟩ TW.out
                · have HF : Hid (¬ RightP true K K.length nd high bnd) := Lib.hid fun h => h2 ((HEQ.out.1 h).1 rfl).2
                  have q2 : ((nd : Int) == 0) = false := by simp; omega
                  go_wp2_with fail
                  go_ret
                  exact BRes.of false rfl ⟨fun h => by (cases h), fun h => absurd h HF.out⟩ TW.out
              · have HF : Hid (¬ RightP true K nv nd high bnd) := Lib.hid fun h => h1 ((HEQ.out.1 h).1 rfl).1
                have q2 : ((nv : Int) == (K.length : Int)) = false := by simp; omega
                go_wp2_with fail
                go_ret
                exact BRes.of false rfl ⟨fun h => by (cases h), fun h => absurd h HF.out⟩ TW.out
            | false =>
              by_cases h1 : nv = 0
              · subst h1
                by_cases h2 : nd = K.length + 1
                · subst h2
                  have HF : Hid (RightP false K 0 (K.length + 1) high bnd) := Lib.hid (HEQ.out.2 ⟨fun h => by (cases h), fun _ => ⟨rfl, rfl⟩⟩)
                  have q2 : (((K.length + 1 : Nat) : Int) == (K.length : Int) + 1) = true := by simp
                  go_wp2_with fail
                  go_ret
                  exact BRes.of true rfl ⟨fun _ => HF.out, fun _ => rfl⟩ TW.out
                · have HF : Hid (¬ RightP false K 0 nd high bnd) := Lib.hid fun h => h2 ((HEQ.out.1 h).2 rfl).2
                  have q2 : ((nd : Int) == (K.length : Int) + 1) = false := by simp; omega
                  go_wp2_with fail
                  go_ret
                  exact BRes.of false rfl ⟨fun h => by (cases h), fun h => absurd h HF.out⟩ TW.out
              · have HF : Hid (¬ RightP false K nv nd high bnd) := Lib.hid fun h => h1 ((HEQ.out.1 h).2 rfl).1
                have q2 : ((nv : Int) == 0) = false := by simp; omega
                go_wp2_with fail
                go_ret
                exact BRes.of false rfl ⟨fun h => by (cases h), fun h => absurd h HF.out⟩ TW.out
end Go.Proofs.Ytengbkopihiiaaa
