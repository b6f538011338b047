/-
  The document's Rises and Place; the law's same.
-/
import Derived.Test.YtengbkopihiiaaaBn
import Derived.Test.YtengbkopihiiaaaLess
namespace Go.Proofs.Ytengbkopihiiaaa
open Go.RowKit Go.Lib
set_option linter.unusedVariables false
set_option maxRecDepth 20000
set_option maxRecDepth 20000
set_option linter.unusedSimpArgs false

/-- An answer that tells whether. -/
def BRes (P : Prop) (w : World) (e : Ending) (w' : World) : Prop := ∃ b, e = .returned (.bool b) ∧ (b = true ↔ P) ∧ Turn No w w'
theorem BRes.of {P : Prop} {w w' : World} {e : Ending} (b : Bool) (h1 : e = .returned (.bool b)) (h2 : b = true ↔ P) (h3 : Turn No w w') : BRes P w e w' := ⟨b, h1, h2, h3⟩
theorem kcs_hold {w : World} {B : Option Addr} {K : List ByteArray} (h : Row w B (kcs K)) {j : Nat} {k : ByteArray} (hj : K[j]? = some k) : ∃ b o, B = some ⟨b, o, none⟩ ∧ ∀ W, Turn No w W → W.cell? ⟨b, o + j, none⟩ = some (.string k) := by
  obtain ⟨b, o, hA, hc⟩ := kcs_get h hj
  refine ⟨b, o, hA, fun W t => ?_⟩
  obtain ⟨b2, o2, hA2, hc2⟩ := kcs_get (h.no t) hj
  rw [hA] at hA2
  injection hA2 with hA2
  injection hA2 with e1 e2
  subst e1 e2
  exact hc2
theorem lessT (a b : ByteArray) (w : World) (ha : Fit a) (hb : Fit b) : Calls Try.prog 48 #[.string a, .string b] w fun e w' => BRes (kl a b) w e w' := by
  refine (less_any a b w ha hb).mono ?_
  rintro e w' ⟨rfl, n, rfl⟩
  exact ⟨_, rfl, decide_eq_true_iff, (Turn.refl _ _).drewN _⟩
theorem rk_last {K : List ByteArray} {i : Nat} {x y : ByteArray} (h : Rk (K.take (i + 1))) (hx : K[i]? = some x) (hy : K[i + 1]? = some y) : Rk (K.take (i + 2)) ↔ kl x y := by
  have e1 : K.take (i + 2) = K.take (i + 1) ++ [y] := by rw [List.take_add_one, hy]; rfl
  have e2 : K.take (i + 1) = K.take i ++ [x] := by rw [List.take_add_one, hx]; rfl
  unfold Rk at h ⊢
  rw [e1, List.pairwise_append]
  constructor
  · rintro ⟨_, _, h3⟩
    exact h3 x (by rw [e2]; simp) y (by simp)
  · intro hk
    refine ⟨h, List.pairwise_singleton _ _, fun a ha b hb => ?_⟩
    simp at hb
    subst hb
    rw [e2, List.pairwise_append] at h
    rw [e2] at ha
    rcases List.mem_append.1 ha with ha | ha
    · exact kl_trans (h.2.2 a ha x (by simp)) hk
    · simp at ha
      subst ha
      exact hk
theorem rk_take {K : List ByteArray} (h : Rk K) (n : Nat) : Rk (K.take n) := List.Pairwise.sublist (List.take_sublist _ _) h
set_option maxHeartbeats 4000000 in
theorem rises_any (K : List ByteArray) (B : Option Addr) (c : Nat) (w : World) (hR : Row w B (kcs K)) (hf : ∀ k ∈ K, Fit k) (hn : K.length ≤ 100000) :
    Calls Try.prog 28 #[.slice B K.length c] w fun e w' => BRes (Rk K) w e w' := by
  have HL := Lib.hid (And.intro hR hf)
  clear hR hf
  go_enter Try.func28, Try.ntmps28
  go_wp2_with fail
  go_loopw [3] (fun x wr => ∃ j : Nat, 1 ≤ j ∧ (j ≤ K.length ∨ j = 1) ∧ x = .int .i64 (j : Int) ∧ Hid (Turn No w wr ∧ Rk (K.take j))) (fun x _ => K.length + 1 - (RowKit.intOf x).toNat)
  case atStart => exact ⟨1, Nat.le_refl _, .inr rfl, rfl, Lib.hid ⟨Turn.refl _ _, by cases K <;> simp [Rk]⟩⟩
  case round =>
    obtain ⟨j, hj1, hi, rfl, HP⟩ := hrel
    by_cases hlt : j < K.length
    · obtain ⟨x, hx⟩ : ∃ t, K[j - 1]? = some t := ⟨K[j - 1]'(by omega), List.getElem?_eq_getElem (by omega)⟩
      obtain ⟨y, hy⟩ : ∃ t, K[j]? = some t := ⟨K[j], List.getElem?_eq_getElem hlt⟩
      obtain ⟨b, o, hB, hc⟩ := kcs_hold (HL.out.1.no HP.out.1) hx
      obtain ⟨b2, o2, hB2, hc2⟩ := kcs_hold (HL.out.1.no HP.out.1) hy
      rw [hB] at hB2
      injection hB2 with hB2
      injection hB2 with e1 e2
      subst e1 e2
      have HRK : Hid (Rk (K.take (j + 1)) ↔ kl x y) := Lib.hid (by
        have h1 := HP.out.2
        have e : j - 1 + 1 = j := by omega
        rw [← e] at h1 hy ⊢
        exact rk_last h1 hx hy)
      have HNR : Hid (Rk K → Rk (K.take (j + 1))) := Lib.hid fun h => rk_take h _
      have CL := Lib.hid fun (W : World) => lessT x y W (HL.out.2 x (List.mem_of_getElem? hx)) (HL.out.2 y (List.mem_of_getElem? hy))
      have hS1 : Hid (∀ W, Turn No wr W → W.cell? ⟨b, o + (j - 1), none⟩ = some (.string x) ∧ W.cell? ⟨b, o + j, none⟩ = some (.string y)) := Lib.hid fun W t => ⟨hc W t, hc2 W t⟩
      have TD : Hid (Turn No wr wr.drew) := Lib.hid (Turn.refl No wr).drew
      have hS0 := hS1.out _ TD.out
      subst hB
      clear hx hy hc hc2
      have hq1 : (0 : Int) ≤ (j : Int) - 1 := by omega
      have hq2 : (j : Int) - 1 < (K.length : Int) := by omega
      have hq3 : (j : Int) < (K.length : Int) := by omega
      have hq4 : (0 : Int) ≤ (j : Int) := by omega
      have hq5 : ((j : Int) - 1).toNat = j - 1 := by omega
      have hq6 : IntKind.i64.wrap ((j : Int) - 1) = (j : Int) - 1 := IntWalk.i64_in _ ⟨by omega, by omega⟩
      have hq7 : (1 : Int) ≤ (j : Int) := by omega
      have hq8 : (j : Int) < (K.length : Int) + 1 := by omega
      go_upto_region 4 with fail
      go_cut [20] from 10 to 20 (fun s wx => ∃ bb : Bool, s = .bool (!bb) ∧ Hid ((bb = true ↔ kl x y) ∧ Turn No wr wx))
      case first =>
        go_region_held3 (fun W => W.cell? ⟨b, o + (j - 1), none⟩ = some (.string x) ∧ W.cell? ⟨b, o + j, none⟩ = some (.string y)) (first | (with_reducible exact hS0) | (with_reducible exact hS1.out _ HY.out.2)) (first | (go_at_call 48; (with_reducible refine (CL.out _).mono ?_); rintro e wy ⟨bb, rfl, hbb, hy⟩; have HY := Lib.hid (And.intro hbb (TD.out.trans hy)); clear hbb hy))
        go_wp2_with fail
        go_meet
        exact ⟨bb, rfl, HY⟩
      case rest =>
        obtain ⟨bb, rfl, HY⟩ := hcut
        generalize wc = wy at HY ⊢
        clear hS0 hS1 CL TD hq1 hq2 hq5 hq6
        cases bb with
        | true =>
          have HX : Hid (Rk (K.take (j + 1))) := Lib.hid (HRK.out.2 (by first | exact HY.out.1.1 rfl | exact HY.out.1.1 trivial))
          go_wp2_with fail
          exact ⟨⟨j + 1, by omega, .inl (by omega), by go_num, Lib.hid ⟨HP.out.1.trans HY.out.2, HX.out⟩⟩, by simp [RowKit.intOf]; omega⟩
        | false =>
          have HX : Hid (¬ Rk K) := Lib.hid fun h => by have := HY.out.1.2 (HRK.out.1 (HNR.out h)); cases this
          go_wp2_with fail
          go_ret
          exact BRes.of false rfl ⟨fun h => by (cases h), fun h => absurd h HX.out⟩ (HP.out.1.trans HY.out.2)
    · have HX : Hid (Rk K) := Lib.hid (by have h := HP.out.2; rwa [List.take_of_length_le (by omega)] at h)
      have hq3 : ¬ (j : Int) < (K.length : Int) := by omega
      go_wp2_with fail
      go_ret
      exact BRes.of true rfl ⟨fun _ => HX.out, fun _ => rfl⟩ HP.out.1
end Go.Proofs.Ytengbkopihiiaaa
