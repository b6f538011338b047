/-
  find: the place of a key among keys that rise.
-/
import Derived.Test.YtjjmooegpoeomaaWBas
import Derived.Test.YtjjmooegpoeomaaRow
import Derived.Deep.MidRow
namespace Go.Proofs.Ytjjmooegpoeomaa
open Go.RowKit Go.Lib
set_option linter.unusedVariables false
set_option linter.unusedSimpArgs false

theorem low_iff {l : List Pr} (ha : Asc l) (key : ByteArray) {i : Nat} {p : Pr} (h : l[i]? = some p) : kl p.k key ↔ i < (lowL l key).length := by
  rw [← split_L l key] at h
  constructor
  · intro hk
    rcases Nat.lt_or_ge i (lowL l key).length with h1 | h1
    · exact h1
    · rw [List.getElem?_append_right h1] at h
      exact absurd hk (ha.hi (List.mem_of_getElem? h))
  · intro hi
    rw [List.getElem?_append_left hi] at h
    exact low_mem (List.mem_of_getElem? h)
theorem has_at {l : List Pr} {key : ByteArray} {p : Pr} (h : l[(lowL l key).length]? = some p) : hasL l key = decide (p.k = key) := by
  have h2 : (lowL l key ++ hiL l key)[(lowL l key).length]? = some p := by rw [split_L]; exact h
  rw [List.getElem?_append_right (Nat.le_refl _), Nat.sub_self] at h2
  unfold hasL
  cases hh : hiL l key with
  | nil => rw [hh] at h2; cases h2
  | cons q t => rw [hh] at h2; simp at h2; subst h2; rfl
theorem has_end {l : List Pr} {key : ByteArray} (h : ¬ (lowL l key).length < l.length) : hasL l key = false := by
  have := congrArg List.length (split_L l key)
  rw [List.length_append] at this
  have h0 : hiL l key = [] := List.eq_nil_of_length_eq_zero (by omega)
  unfold hasL
  rw [h0]

theorem kcmp_beq (a b : ByteArray) : (kcmp a b == 0) = decide (a = b) := by
  by_cases h : a = b
  · rw [kcmp_zero.2 h, decide_eq_true h]; rfl
  · rw [decide_eq_false h]
    exact beq_eq_false_iff_ne.2 fun e => h (kcmp_zero.1 e)
set_option maxHeartbeats 2000000 in
theorem search_any (l : List Pr) (ha : Asc l) (A : Option Addr) (cap : Nat) (key : ByteArray) (w : World) (h : Row w A (pcs l)) (hl : l.length ≤ 1000000) :
    Calls Try.prog 57 #[.slice A l.length cap, .string key, .func (.func 58) #[] #[]] w fun e w' => e = .returned (.tuple #[.int .i64 ((lowL l key).length : Int), .bool (hasL l key)]) ∧ Turn No w w' := by
  have hlow : (lowL l key).length ≤ l.length := by
    have := congrArg List.length (split_L l key)
    rw [List.length_append] at this
    omega
  have HR := Lib.hid (And.intro h ha)
  clear h ha
  obtain ⟨c, hc⟩ : ∃ c, (lowL l key).length = c := ⟨_, rfl⟩
  obtain ⟨r, hr⟩ : ∃ r, hasL l key = r := ⟨_, rfl⟩
  have HC := Lib.hid (And.intro hc hr)
  rw [hc] at hlow ⊢
  rw [hr]
  clear hc hr
  go_enter Try.func57, Try.ntmps57
  go_wp2_with fail
  go_loopw [9, 10] (fun i j wr => ∃ (a b : Nat), a ≤ c ∧ c ≤ b ∧ b ≤ l.length ∧ i = .int .i64 (a : Int) ∧ j = .int .i64 (b : Int) ∧ Hid (Turn No w wr)) (fun i j _ => (RowKit.intOf j).toNat - (RowKit.intOf i).toNat)
  case atStart => exact ⟨0, l.length, Nat.zero_le _, hlow, Nat.le_refl _, rfl, rfl, Lib.hid (Turn.refl _ _)⟩
  case round =>
    obtain ⟨a, b, h1, h2, h3, rfl, rfl, HT⟩ := hrel
    by_cases hlt : a < b
    · obtain ⟨p, hp⟩ : ∃ p, l[(a + b) / 2]? = some p := ⟨l[(a + b) / 2]'(by omega), List.getElem?_eq_getElem (by omega)⟩
      obtain ⟨bk, off, hA, hb, x0, x1⟩ := (HR.out.1.turn HT.out fun _ _ _ h => h).pair hp
      have hiff := low_iff HR.out.2 key hp
      rw [HC.out.1] at hiff
      subst hA
      obtain ⟨pk, pv⟩ := p
      have CC := Lib.hid (cmp58_any pk pv key wr)
      simp only at x0 x1 hiff
      have HI := Lib.hid hiff
      clear hiff hb hp
      by_cases hk : kcmp pk key < 0
      · have hkd : decide (kcmp pk key < 0) = true := decide_eq_true hk
        have h4 : (a + b) / 2 < c := HI.out.1 hk
        clear hk
        go_wp2_with (go_at_call 58; refine CC.out.mono ?_; rintro e w2 ⟨rfl, ht⟩; have HT2 := Lib.hid (HT.out.trans ht); clear ht)
        exact ⟨⟨(a + b) / 2 + 1, b, by omega, h2, h3, by rw [show ((a : Int) + (b : Int)) / 2 + 1 = (((a + b) / 2 + 1 : Nat) : Int) by omega], rfl, HT2⟩, by simp [RowKit.intOf]; omega⟩
      · have hkd : decide (kcmp pk key < 0) = false := decide_eq_false hk
        have h4 : ¬ (a + b) / 2 < c := fun h => hk (HI.out.2 h)
        clear hk
        go_wp2_with (go_at_call 58; refine CC.out.mono ?_; rintro e w2 ⟨rfl, ht⟩; have HT2 := Lib.hid (HT.out.trans ht); clear ht)
        exact ⟨⟨a, (a + b) / 2, h1, by omega, by omega, rfl, by rw [show ((a : Int) + (b : Int)) / 2 = (((a + b) / 2 : Nat) : Int) by omega], HT2⟩, by simp [RowKit.intOf]; omega⟩
    · obtain rfl : a = b := by omega
      obtain rfl : a = c := by omega
      by_cases hn : a < l.length
      · obtain ⟨p, hp⟩ : ∃ p, l[a]? = some p := ⟨l[a], List.getElem?_eq_getElem hn⟩
        obtain ⟨bk, off, hA, hb, x0, x1⟩ := (HR.out.1.turn HT.out fun _ _ _ h => h).pair hp
        have hat : hasL l key = decide (p.k = key) := has_at (by rw [HC.out.1]; exact hp)
        rw [HC.out.2] at hat
        subst hA
        obtain ⟨pk, pv⟩ := p
        have CC := Lib.hid (cmp58_any pk pv key wr)
        simp only at x0 x1 hat
        have HX := Lib.hid hat
        clear hb hp hat
        go_wp2_with (go_at_call 58; refine CC.out.mono ?_; rintro e w2 ⟨rfl, ht⟩; have HT2 := Lib.hid (HT.out.trans ht); clear ht)
        go_ret2
        refine ⟨?_, HT2.out⟩
        rw [HX.out, ← kcmp_beq]
        rfl
      · have hat := has_end (l := l) (key := key) (by rw [HC.out.1]; exact hn)
        rw [HC.out.2] at hat
        have HX := Lib.hid hat
        clear hat
        go_wp2_with fail
        go_ret2
        exact ⟨by rw [HX.out]; rfl, HT.out⟩
/-- A map in memory: the block of its one field, and the row of its pairs, which is its own. -/
structure Om (w : World) (Z mb : Nat) (rb : Option Nat) (l : List Pr) : Prop where
  rowed : ∃ A cap, At w mb (.cells #[.slice A l.length cap] 65 (0, 0)) ∧ w.ownsRow Z 50 2 (.slice A l.length cap) l.length (pcs l) ∧ (Value.slice A l.length cap).ownBlock = rb
  asc : Asc l
  few : l.length ≤ 50000
  fit : ∀ p ∈ l, Fit p.k ∧ Fit p.v
  mb_new : Z ≤ mb
/-- find -/
theorem find_any {w : World} {Z mb : Nat} {rb : Option Nat} {l : List Pr} (h : Om w Z mb rb l) (key : ByteArray) :
    Calls Try.prog 50 #[.pointer (some ⟨mb, 0, none⟩), .string key] w fun e w' => e = .returned (.tuple #[.int .i64 ((lowL l key).length : Int), .bool (hasL l key)]) ∧ Turn No w w' := by
  obtain ⟨A, cap, h0, hr, _⟩ := h.rowed
  have CS := Lib.hid (search_any l h.asc A cap key w (row_of_own hr) (Nat.le_trans h.few (by decide)))
  have c0 := h0.cell 0
  simp only [List.getElem?_toArray, List.getElem?_cons_zero] at c0
  clear h h0 hr
  go_enter Try.func50, Try.ntmps50
  go_wp2_with (go_at_call 57; refine CS.out.mono ?_; rintro e w2 ⟨rfl, ht⟩; have HT2 := Lib.hid ht; clear ht)
  go_ret2
  exact ⟨rfl, HT2.out⟩
end Go.Proofs.Ytjjmooegpoeomaa
