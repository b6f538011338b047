/-
  Plain numbers: words whose bits are a set's; the lowest bit; how many bits are set.
-/
import Derived.Lib.TrailingZeros
namespace Go.Proofs.YtbdfbgkfhaiccaaDoor

/-- The set whose words are F. -/
def bitAt (F : List Nat) (x : Nat) : Bool := (F.getD (x / 64) 0).testBit (x % 64)

theorem lt_of_bit {v j : Nat} (hv : v < 18446744073709551616) (h : v.testBit j = true) : j < 64 := by
  rcases Nat.lt_or_ge j 64 with h1 | h1
  · exact h1
  · have : v < 2 ^ j := Nat.lt_of_lt_of_le hv (by
      have := Nat.pow_le_pow_right (n := 2) (by omega) h1
      simpa using this)
    rw [Nat.testBit_lt_two_pow this] at h
    cases h

theorem low_form (v : Nat) (h0 : v ≠ 0) (hv : v < 18446744073709551616) : ∃ m, v = 2 ^ (Lib.ctz 64 v + 1) * m + 2 ^ Lib.ctz 64 v ∧ Lib.ctz 64 v < 64 := by
  have e : Lib.ctz 64 v = Lib.ctzFrom 64 v := by simp [Lib.ctz, h0]
  obtain ⟨m, hm, hk⟩ := Lib.ctzFrom_spec 64 v (by omega) (by simpa using hv)
  refine ⟨m, ?_, by rw [e]; exact hk⟩
  rw [e, Nat.pow_succ]
  generalize 2 ^ Lib.ctzFrom 64 v = q at hm ⊢
  rw [hm, Nat.mul_add, Nat.mul_one, Nat.mul_assoc]

theorem low_bit (v : Nat) (h0 : v ≠ 0) (hv : v < 18446744073709551616) (j : Nat) : v.testBit j = (if j < Lib.ctz 64 v then false else if j = Lib.ctz 64 v then true else v.testBit j) := by
  obtain ⟨m, hm, hk⟩ := low_form v h0 hv
  generalize Lib.ctz 64 v = t at hm hk ⊢
  by_cases h1 : j < t
  · rw [if_pos h1, hm, Nat.testBit_two_pow_mul_add _ (Nat.pow_lt_pow_right (by omega) (by omega)), if_pos (by omega), Nat.testBit_two_pow]
    simp; omega
  · rw [if_neg h1]
    by_cases h2 : j = t
    · rw [if_pos h2]
      subst h2
      rw [hm, Nat.testBit_two_pow_mul_add _ (Nat.pow_lt_pow_right (by omega) (by omega)), if_pos (by omega), Nat.testBit_two_pow]
      simp
    · rw [if_neg h2]

theorem strike_low (v : Nat) (h0 : v ≠ 0) (hv : v < 18446744073709551616) (j : Nat) : (v &&& (v - 1)).testBit j = (v.testBit j && j != Lib.ctz 64 v) := by
  obtain ⟨m, hm, hk⟩ := low_form v h0 hv
  have hlow := low_bit v h0 hv j
  generalize Lib.ctz 64 v = t at hm hk hlow ⊢
  have hp : 0 < 2 ^ t := Nat.two_pow_pos t
  have hd : v - 1 = 2 ^ (t + 1) * m + (2 ^ t - 1) := by omega
  have hlt : 2 ^ t < 2 ^ (t + 1) := Nat.pow_lt_pow_right (by omega) (by omega)
  rw [Nat.testBit_and]
  rcases Nat.lt_trichotomy j t with h1 | h1 | h1
  · rw [if_pos h1] at hlow
    rw [hlow]; rfl
  · subst h1
    have e2 : (v - 1).testBit j = false := by
      rw [hd, Nat.testBit_two_pow_mul_add _ (by omega), if_pos (by omega), Nat.testBit_two_pow_sub_one]
      simp
    rw [e2]
    simp
  · have e1 : v.testBit j = m.testBit (j - (t + 1)) := by
      rw [hm, Nat.testBit_two_pow_mul_add _ (by omega), if_neg (by omega)]
    have e2 : (v - 1).testBit j = m.testBit (j - (t + 1)) := by
      rw [hd, Nat.testBit_two_pow_mul_add _ (by omega), if_neg (by omega)]
    have e3 : (j != t) = true := by simp; omega
    rw [e1, e2, e3]
    simp

theorem and_lt (v u : Nat) (hv : v < 18446744073709551616) : v &&& u < 18446744073709551616 := Nat.lt_of_le_of_lt Nat.and_le_left hv
theorem set_lt (v t : Nat) (hv : v < 18446744073709551616) (ht : t < 64) : v ||| 2 ^ t < 18446744073709551616 := by
  have := Nat.or_lt_two_pow (n := 64) (x := v) (y := 2 ^ t) (by simpa using hv) (Nat.pow_lt_pow_right (by omega) ht)
  simpa using this
theorem set_bit (v t j : Nat) : (v ||| 2 ^ t).testBit j = (v.testBit j || j == t) := by
  rw [Nat.testBit_or, Nat.testBit_two_pow]
  by_cases h : t = j
  · subst h; simp
  · have h' : ¬ j = t := fun e => h e.symm
    simp [h, h']

theorem getD_set (F : List Nat) (i u k : Nat) (hi : i < F.length) : (F.set i u).getD k 0 = if k = i then u else F.getD k 0 := by
  simp only [List.getD_eq_getElem?_getD, List.getElem?_set]
  by_cases h : k = i
  · subst h; simp [hi]
  · have : ¬ i = k := fun e => h e.symm
    simp [h, this]

/-- The word of x with x's bit set. -/
theorem bitAt_set (F : List Nat) (x y : Nat) (hx : x / 64 < F.length) : bitAt (F.set (x / 64) (F.getD (x / 64) 0 ||| 2 ^ (x % 64))) y = (bitAt F y || y == x) := by
  unfold bitAt
  rw [getD_set F _ _ _ hx]
  by_cases h : y / 64 = x / 64
  · rw [if_pos h, set_bit, h]
    have : (y % 64 == x % 64) = (y == x) := by
      rw [Bool.eq_iff_iff]; simp; omega
    rw [this]
  · rw [if_neg h]
    have : (y == x) = false := by simp; intro e; exact h (by rw [e])
    rw [this, Bool.or_false]

/-- The first word that is not 0, its lowest bit struck: the least of the set is gone. -/
theorem bitAt_strike (F : List Nat) (i y : Nat) (hi : i < F.length) (h0 : F.getD i 0 ≠ 0) (hv : F.getD i 0 < 18446744073709551616) :
    bitAt (F.set i (F.getD i 0 &&& (F.getD i 0 - 1))) y = (bitAt F y && y != i * 64 + Lib.ctz 64 (F.getD i 0)) := by
  obtain ⟨_, _, hk⟩ := low_form _ h0 hv
  unfold bitAt
  rw [getD_set F _ _ _ hi]
  by_cases h : y / 64 = i
  · rw [if_pos h, strike_low _ h0 hv, h]
    have : (y % 64 != Lib.ctz 64 (F.getD i 0)) = (y != i * 64 + Lib.ctz 64 (F.getD i 0)) := by
      rw [Bool.eq_iff_iff]; simp; omega
    rw [this]
  · rw [if_neg h]
    have : (y != i * 64 + Lib.ctz 64 (F.getD i 0)) = true := by rw [bne_iff_ne]; omega
    rw [this, Bool.and_true]

/-- Where the least of the set stands. -/
theorem least_at (F : List Nat) (s : Nat) (hF : ∀ x ∈ F, x < 18446744073709551616) (hs : bitAt F s = true) (hl : ∀ y, y < s → bitAt F y = false) :
    s / 64 < F.length ∧ (∀ j, j < s / 64 → F.getD j 0 = 0) ∧ F.getD (s / 64) 0 ≠ 0 ∧ Lib.ctz 64 (F.getD (s / 64) 0) = s % 64 := by
  have h1 : s / 64 < F.length := by
    rcases Nat.lt_or_ge (s / 64) F.length with h | h
    · exact h
    · unfold bitAt at hs
      rw [List.getD_eq_getElem?_getD, List.getElem?_eq_none h] at hs
      simp at hs
  have hlt : ∀ j, F.getD j 0 < 18446744073709551616 := fun j => by
    rw [List.getD_eq_getElem?_getD]
    rcases Nat.lt_or_ge j F.length with h | h
    · rw [List.getElem?_eq_getElem h]; exact hF _ (List.getElem_mem h)
    · rw [List.getElem?_eq_none h]; simp
  have h2 : F.getD (s / 64) 0 ≠ 0 := fun e => by
    unfold bitAt at hs
    rw [e] at hs
    simp at hs
  refine ⟨h1, fun j hj => ?_, h2, ?_⟩
  · apply Nat.eq_of_testBit_eq
    intro t
    simp only [Nat.zero_testBit]
    cases ht : (F.getD j 0).testBit t with
    | false => rfl
    | true =>
      have h64 := lt_of_bit (hlt j) ht
      have := hl (j * 64 + t) (by omega)
      unfold bitAt at this
      rw [show (j * 64 + t) / 64 = j by omega, show (j * 64 + t) % 64 = t by omega, ht] at this
      cases this
  · obtain ⟨m, hm, hk⟩ := low_form _ h2 (hlt _)
    rcases Nat.lt_trichotomy (Lib.ctz 64 (F.getD (s / 64) 0)) (s % 64) with h | h | h
    · have e := low_bit _ h2 (hlt _) (Lib.ctz 64 (F.getD (s / 64) 0))
      rw [if_neg (by omega), if_pos rfl] at e
      have := hl (s / 64 * 64 + Lib.ctz 64 (F.getD (s / 64) 0)) (by omega)
      unfold bitAt at this
      generalize Lib.ctz 64 (F.getD (s / 64) 0) = c at this e hk h
      rw [show (s / 64 * 64 + c) / 64 = s / 64 by omega, show (s / 64 * 64 + c) % 64 = c by omega, e] at this
      cases this
    · exact h
    · have e := low_bit _ h2 (hlt _) (s % 64)
      rw [if_pos h] at e
      unfold bitAt at hs
      rw [e] at hs
      cases hs

theorem none_at (F : List Nat) (hF : ∀ x ∈ F, x < 18446744073709551616) (hl : ∀ y, bitAt F y = false) (j : Nat) : F.getD j 0 = 0 := by
  have hlt : F.getD j 0 < 18446744073709551616 := by
    rw [List.getD_eq_getElem?_getD]
    rcases Nat.lt_or_ge j F.length with h | h
    · rw [List.getElem?_eq_getElem h]; exact hF _ (List.getElem_mem h)
    · rw [List.getElem?_eq_none h]; simp
  apply Nat.eq_of_testBit_eq
  intro t
  simp only [Nat.zero_testBit]
  cases ht : (F.getD j 0).testBit t with
  | false => rfl
  | true =>
    have h64 := lt_of_bit hlt ht
    have := hl (j * 64 + t)
    unfold bitAt at this
    rw [show (j * 64 + t) / 64 = j by omega, show (j * 64 + t) % 64 = t by omega, ht] at this
    cases this

/-- How many of the numbers below n are in the set. -/
def cnt (p : Nat → Bool) : Nat → Nat
  | 0 => 0
  | n + 1 => cnt p n + (if p n then 1 else 0)

theorem cnt_congr {p q : Nat → Bool} : ∀ n, (∀ x, x < n → p x = q x) → cnt p n = cnt q n
  | 0, _ => rfl
  | n + 1, h => by rw [cnt, cnt, cnt_congr n (fun x hx => h x (by omega)), h n (by omega)]
theorem cnt_add (p : Nat → Bool) (a : Nat) : ∀ b, cnt p (a + b) = cnt p a + cnt (fun x => p (a + x)) b
  | 0 => rfl
  | b + 1 => by rw [← Nat.add_assoc, cnt, cnt, cnt_add p a b, Nat.add_assoc]
theorem cnt_le (p : Nat → Bool) : ∀ n, cnt p n ≤ n
  | 0 => Nat.le_refl _
  | n + 1 => by rw [cnt]; have := cnt_le p n; split <;> omega
theorem cnt_none (p : Nat → Bool) : ∀ n, (∀ x, x < n → p x = false) → cnt p n = 0
  | 0, _ => rfl
  | n + 1, h => by rw [cnt, cnt_none p n (fun x hx => h x (by omega)), h n (by omega)]; rfl
/-- One more, one less. -/
theorem cnt_in (p : Nat → Bool) (s : Nat) (hp : p s = false) : ∀ n, s < n → cnt (fun x => p x || x == s) n = cnt p n + 1
  | 0, h => by omega
  | n + 1, h => by
    rw [cnt, cnt]
    by_cases e : s = n
    · subst e
      rw [cnt_congr (p := fun x => p x || x == s) (q := p) s (fun x hx => by have : (x == s) = false := by simp; omega
                                                                             simp [this]), hp]
      simp
    · rw [cnt_in p s hp n (by omega)]
      have : (n == s) = false := by simp; omega
      simp only [this, Bool.or_false]
      omega
theorem cnt_out (p : Nat → Bool) (s : Nat) (hp : p s = true) : ∀ n, s < n → cnt (fun x => p x && x != s) n + 1 = cnt p n
  | 0, h => by omega
  | n + 1, h => by
    rw [cnt, cnt]
    by_cases e : s = n
    · subst e
      rw [cnt_congr (p := fun x => p x && x != s) (q := p) s (fun x hx => by have : (x != s) = true := by simp; omega
                                                                             simp [this]), hp]
      simp
    · have ih := cnt_out p s hp n (by omega)
      have : (n != s) = true := by simp; omega
      simp only [this, Bool.and_true]
      omega
theorem cnt_pos (p : Nat → Bool) : ∀ n, 0 < cnt p n → ∃ s, s < n ∧ p s = true ∧ ∀ y, y < s → p y = false
  | 0, h => by simp [cnt] at h
  | n + 1, h => by
    by_cases h0 : 0 < cnt p n
    · obtain ⟨s, h1, h2, h3⟩ := cnt_pos p n h0
      exact ⟨s, by omega, h2, h3⟩
    · refine ⟨n, by omega, ?_, ?_⟩
      · rw [cnt] at h
        cases hp : p n with
        | true => rfl
        | false => rw [hp] at h; simp at h; omega
      · intro y hy
        cases hp : p y with
        | false => rfl
        | true =>
          have := cnt_add p y (n - y)
          rw [show y + (n - y) = n by omega] at this
          have h1 := cnt_add (fun x => p (y + x)) 1 (n - y - 1)
          rw [show 1 + (n - y - 1) = n - y by omega] at h1
          simp [cnt, hp] at h1
          omega
theorem cnt_zero (p : Nat → Bool) (n : Nat) (h : cnt p n = 0) (x : Nat) (hx : x < n) : p x = false := by
  cases hp : p x with
  | false => rfl
  | true =>
    have := cnt_out p x hp n hx
    omega
end Go.Proofs.YtbdfbgkfhaiccaaDoor
