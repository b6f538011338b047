/-
  Less: byte by byte.
-/
import Derived.Test.YtengbkopihiiaaaBas
namespace Go.Proofs.Ytengbkopihiiaaa
open Go.RowKit Go.Lib
set_option linter.unusedVariables false
set_option maxRecDepth 20000
set_option linter.unusedSimpArgs false

theorem getD_at (a : ByteArray) (k : Nat) (h : k < a.size) : a.data.toList.getD k 0 = a[k] := by
  have h' : k < a.data.toList.length := by simpa using h
  rw [List.getD, List.getElem?_eq_getElem h']
  rfl
theorem alike_of {a b : ByteArray} {k : Nat} (ha : k < a.size) (hb : k < b.size) (h : ((a[k].toNat : Int) != (b[k].toNat : Int)) = false) : a.data.toList.getD k 0 = b.data.toList.getD k 0 := by
  rw [getD_at a k ha, getD_at b k hb]
  have h1 : (a[k].toNat : Int) = (b[k].toNat : Int) := by simpa using h
  exact UInt8.toNat_inj.1 (by omega)
theorem cmp_at : ∀ (k : Nat) (a b : List UInt8), (∀ j, j < k → a.getD j 0 = b.getD j 0) → k < a.length → k < b.length → a.getD k 0 ≠ b.getD k 0 → (Math.cmp a b < 0 ↔ (a.getD k 0).toNat < (b.getD k 0).toNat)
  | 0, x :: a, y :: b, _, _, _, hne => by
    simp only [List.getD_cons_zero] at hne ⊢
    rw [Math.cmp_cons]
    by_cases h : x < y
    · rw [if_pos h]
      have := UInt8.lt_iff_toNat_lt.1 h
      simp [this]
    · have h2 : ¬ x.toNat < y.toNat := fun e => h (UInt8.lt_iff_toNat_lt.2 e)
      rw [if_neg h]
      by_cases h3 : y < x
      · rw [if_pos h3]; simp [h2]
      · exfalso
        rcases Math.u8_tri x y with e | e | e
        · exact h e
        · exact hne e
        · exact h3 e
  | k + 1, x :: a, y :: b, hs, ha, hb, hne => by
    have h0 : x = y := by simpa using hs 0 (by omega)
    subst h0
    rw [Math.cmp_eq]
    simp only [List.getD_cons_succ] at hne ⊢
    exact cmp_at k a b (fun j hj => by simpa using hs (j + 1) (by omega)) (by simpa using ha) (by simpa using hb) hne
  | _, [], _, _, h, _, _ => by simp at h
  | _, _ :: _, [], _, _, h, _ => by simp at h
theorem cmp_end : ∀ (k : Nat) (a b : List UInt8), (∀ j, j < k → a.getD j 0 = b.getD j 0) → k ≤ a.length → k ≤ b.length → (k = a.length ∨ k = b.length) → (Math.cmp a b < 0 ↔ a.length < b.length)
  | 0, [], [], _, _, _, _ => by simp [Math.cmp, Lib.compareBytes]
  | 0, [], _ :: _, _, _, _, _ => by simp [Math.cmp, Lib.compareBytes]
  | 0, _ :: _, [], _, _, _, _ => by simp [Math.cmp, Lib.compareBytes]
  | 0, _ :: _, _ :: _, _, _, _, h => by simp at h
  | k + 1, [], _, _, h, _, _ => by simp at h
  | k + 1, _ :: _, [], _, _, h, _ => by simp at h
  | k + 1, x :: a, y :: b, hs, ha, hb, h => by
    have h0 : x = y := by simpa using hs 0 (by omega)
    subst h0
    rw [Math.cmp_eq, cmp_end k a b (fun j hj => by simpa using hs (j + 1) (by omega)) (by simpa using ha) (by simpa using hb) (by simpa using h)]
    simp
instance (a b : ByteArray) : Decidable (kl a b) := by unfold kl; infer_instance
set_option maxHeartbeats 1000000 in
theorem less_any (a b : ByteArray) (w : World) (ha : Fit a) (hb : Fit b) :
    Calls Try.prog 48 #[.string a, .string b] w fun e w' => e = .returned (.bool (decide (kl a b))) ∧ ∃ n, w' = w.drewN n := by
  unfold Fit at ha hb
  obtain ⟨r, hr⟩ : ∃ r, decide (kl a b) = r := ⟨_, rfl⟩
  have HR : Hid ((kl a b → r = true) ∧ (¬ kl a b → r = false)) := Lib.hid ⟨fun h => by rw [← hr]; exact decide_eq_true h, fun h => by rw [← hr]; exact decide_eq_false h⟩
  rw [hr]
  clear hr
  go_enter Try.func48, Try.ntmps48
  go_wp2_with fail
  go_loopw [5] (fun i wr => ∃ k n : Nat, k ≤ a.size ∧ k ≤ b.size ∧ i = .int .i64 (k : Int) ∧ Hid (∀ j, j < k → a.data.toList.getD j 0 = b.data.toList.getD j 0) ∧ wr = w.drewN n) (fun i _ => a.size - (RowKit.intOf i).toNat)
  case atStart => exact ⟨0, 0, Nat.zero_le _, Nat.zero_le _, rfl, Lib.hid fun j hj => by omega, rfl⟩
  case round =>
    obtain ⟨k, n, hka, hkb, rfl, HS, rfl⟩ := hrel
    by_cases h1 : k < a.size
    · have g1 : (k : Int) < (a.size : Int) := by omega
      by_cases h2 : k < b.size
      · have g2 : (k : Int) < (b.size : Int) := by omega
        have g0 : (0 : Int) ≤ (k : Int) := by omega
        by_cases hne : a.data.toList.getD k 0 = b.data.toList.getD k 0
        · have hd : ((a[k].toNat : Int) != (b[k].toNat : Int)) = false := by
            rw [getD_at a k h1, getD_at b k h2] at hne
            rw [hne]
            simp
          have HE := Lib.hid hne
          clear hne
          go_wp2_with fail
          go_quiet (fail)
          all_goals go_wp2_with fail
          all_goals refine ⟨⟨k + 1, _, by omega, by omega, by go_num, Lib.hid fun j hj => ?_, rfl⟩, by simp [RowKit.intOf]; omega⟩
          all_goals (by_cases e : j = k; (subst e; exact HE.out); exact HS.out j (by omega))
        · have hc := cmp_at k _ _ HS.out (by simpa using h1) (by simpa using h2) hne
          rw [getD_at a k h1, getD_at b k h2] at hc hne
          have hd : ((a[k].toNat : Int) != (b[k].toNat : Int)) = true := by
            simp only [bne_iff_ne, ne_eq]
            intro e
            exact hne (UInt8.toNat_inj.1 (by omega))
          have HC := Lib.hid hc
          clear hc hne
          by_cases hlt : a[k].toNat < b[k].toNat
          · have hr : r = true := HR.out.1 (HC.out.2 hlt)
            have hi : (a[k].toNat : Int) < (b[k].toNat : Int) := by omega
            subst hr
            clear hlt
            go_wp2_with fail
            go_quiet (fail)
            all_goals go_wp2_with fail
            all_goals go_quiet (fail)
            all_goals go_wp2_with fail
            all_goals go_ret
            all_goals exact ⟨rfl, _, by rw [World.drewN_drewN, World.drewN_drewN]⟩
          · have hr : r = false := HR.out.2 (fun h => hlt (HC.out.1 h))
            have hi : ¬ (a[k].toNat : Int) < (b[k].toNat : Int) := by omega
            subst hr
            have hdd : decide (a[k].toNat < b[k].toNat) = false := decide_eq_false hlt
            clear hlt
            go_wp2_with fail
            go_quiet (fail)
            all_goals go_wp2_with fail
            all_goals go_quiet (fail)
            all_goals go_wp2_with fail
            all_goals go_ret
            all_goals exact ⟨(by first | rfl | (show Ending.returned (.bool (decide (a[k].toNat < b[k].toNat))) = _; rw [hdd])), _, by rw [World.drewN_drewN, World.drewN_drewN]⟩
      · have g2 : ¬ (k : Int) < (b.size : Int) := by omega
        have hk : k = b.size := by omega
        have hc := cmp_end k _ _ HS.out (by simpa using hka) (by simpa using hkb) (.inr (by simpa using hk))
        have g3 : ¬ (a.size : Int) < (b.size : Int) := by omega
        have hr : r = false := HR.out.2 (fun h => by have := hc.1 h; simp at this; omega)
        subst hr
        clear hc
        go_wp2_with fail
        go_ret
        exact ⟨rfl, n, rfl⟩
    · have g1 : ¬ (k : Int) < (a.size : Int) := by omega
      have hk : k = a.size := by omega
      have hc := cmp_end k _ _ HS.out (by simpa using hka) (by simpa using hkb) (.inl (by simpa using hk))
      by_cases h3 : a.size < b.size
      · have g3 : (a.size : Int) < (b.size : Int) := by omega
        have hr : r = true := HR.out.1 (hc.2 (by simpa using h3))
        subst hr
        clear hc
        go_wp2_with fail
        go_ret
        exact ⟨rfl, n, rfl⟩
      · have g3 : ¬ (a.size : Int) < (b.size : Int) := by omega
        have hr : r = false := HR.out.2 (fun h => by have := hc.1 h; simp at this; omega)
        subst hr
        clear hc
        go_wp2_with fail
        go_ret
        exact ⟨rfl, n, rfl⟩
end Go.Proofs.Ytengbkopihiiaaa
