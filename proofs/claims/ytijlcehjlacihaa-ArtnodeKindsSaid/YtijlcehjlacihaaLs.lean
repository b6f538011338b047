/-
  A node's children as plain data: a list of bytes, rising, each with its thing.
-/
import Derived.Test.YtijlcehjlacihaaMem
namespace Go.Proofs.Ytijlcehjlacihaa
open Go.RowKit Go.Lib
set_option linter.unusedVariables false
set_option maxRecDepth 20000
set_option linter.unusedSimpArgs false

/-- Where a node's blocks may lie: from n on, or in e. -/
structure Dom where
  n : Nat
  e : Nat → Prop
instance : Coe Dom Nat := ⟨Dom.n⟩
def Dom.ok (Z : Dom) (g : Nat) : Prop := Z.n ≤ g ∨ Z.e g
def Dom.of (n : Nat) : Dom := ⟨n, fun _ => False⟩
def Dom.le (Z' Z : Dom) : Prop := Z'.n ≤ Z.n ∧ ∀ g, Z.ok g → Z'.ok g
theorem Dom.le_of {Z : Dom} {n : Nat} (h : Z.n ≤ n) : Z.le (Dom.of n) := ⟨h, fun g hg => .inl (Nat.le_trans h (hg.resolve_right id))⟩
theorem Dom.not_ok {n a : Nat} (h : a < n) : ¬ (Dom.of n).ok a := fun e => absurd (e.resolve_right id) (by show ¬ n ≤ a; omega)
theorem Dom.of_ok {n a : Nat} (h : (Dom.of n).ok a) : n ≤ a := h.resolve_right id
section
variable {V : Type}
/-- The bytes rise. -/
def Asc (L : List (Nat × V)) : Prop := L.Pairwise fun a b => a.1 < b.1
def lowC (L : List (Nat × V)) (b : Nat) : List (Nat × V) := L.filter fun p => decide (p.1 < b)
def highC (L : List (Nat × V)) (b : Nat) : List (Nat × V) := L.filter fun p => decide (b < p.1)
/-- What a byte has. -/
def getC (L : List (Nat × V)) (b : Nat) : Option V := (L.find? fun p => decide (p.1 = b)).map (·.2)
def putC (L : List (Nat × V)) (b : Nat) (x : V) : List (Nat × V) := lowC L b ++ (b, x) :: highC L b
def delC (L : List (Nat × V)) (b : Nat) : List (Nat × V) := lowC L b ++ highC L b
/-- The least byte from b on that has something. -/
def nxtC (L : List (Nat × V)) (b : Nat) : Option (Nat × V) := L.find? fun p => decide (b ≤ p.1)
def Lows (X : List (Nat × V)) (b : Nat) : Prop := ∀ p ∈ X, p.1 < b
def Highs (X : List (Nat × V)) (b : Nat) : Prop := ∀ p ∈ X, b < p.1
/-- All are bytes. -/
def Byt (L : List (Nat × V)) : Prop := ∀ p ∈ L, p.1 < 256

theorem low_lows (L : List (Nat × V)) (b : Nat) : Lows (lowC L b) b := fun p hp => by simpa using (List.mem_filter.1 hp).2
theorem high_highs (L : List (Nat × V)) (b : Nat) : Highs (highC L b) b := fun p hp => by simpa using (List.mem_filter.1 hp).2
theorem Asc.nil : Asc ([] : List (Nat × V)) := List.Pairwise.nil
theorem Asc.tail {p : Nat × V} {L : List (Nat × V)} (h : Asc (p :: L)) : Asc L := (List.pairwise_cons.1 h).2
theorem Asc.head {p : Nat × V} {L : List (Nat × V)} (h : Asc (p :: L)) : Highs L p.1 := (List.pairwise_cons.1 h).1
theorem low_of_lows : ∀ {X : List (Nat × V)} {b : Nat}, Lows X b → lowC X b = X := fun {X b} h => List.filter_eq_self.2 fun p hp => by simpa using h p hp
theorem high_of_highs : ∀ {X : List (Nat × V)} {b : Nat}, Highs X b → highC X b = X := fun {X b} h => List.filter_eq_self.2 fun p hp => by simpa using h p hp
theorem low_of_highs {X : List (Nat × V)} {b : Nat} (h : Highs X b) : lowC X b = [] := List.filter_eq_nil_iff.2 fun p hp => by have := h p hp; simp; omega
theorem high_of_lows {X : List (Nat × V)} {b : Nat} (h : Lows X b) : highC X b = [] := List.filter_eq_nil_iff.2 fun p hp => by have := h p hp; simp; omega
theorem low_append (X Y : List (Nat × V)) (b : Nat) : lowC (X ++ Y) b = lowC X b ++ lowC Y b := List.filter_append ..
theorem high_append (X Y : List (Nat × V)) (b : Nat) : highC (X ++ Y) b = highC X b ++ highC Y b := List.filter_append ..
theorem high_self (b : Nat) (y : V) (Y : List (Nat × V)) : highC ((b, y) :: Y) b = highC Y b := by simp [highC]
theorem low_self (b : Nat) (y : V) (Y : List (Nat × V)) : lowC ((b, y) :: Y) b = lowC Y b := by simp [lowC]
/-- A list is what lies below b, what b has, and what lies above. -/
theorem asc_split : ∀ {L : List (Nat × V)}, Asc L → ∀ b, L = lowC L b ++ (match getC L b with | some y => [(b, y)] | none => []) ++ highC L b
  | [], _, b => rfl
  | (c, y) :: L, h, b => by
    have ih := asc_split h.tail b
    have hh : Highs L c := h.head
    rcases Nat.lt_trichotomy c b with hc | hc | hc
    · have e1 : lowC ((c, y) :: L) b = (c, y) :: lowC L b := by simp [lowC, hc]
      have e2 : highC ((c, y) :: L) b = highC L b := by simp [highC, show ¬ b < c by omega]
      have e3 : getC ((c, y) :: L) b = getC L b := by simp [getC, List.find?_cons, show ¬ c = b by omega]
      rw [e1, e2, e3]
      exact congrArg (List.cons (c, y)) ih
    · subst hc
      have e3 : getC ((c, y) :: L) c = some y := by simp [getC]
      rw [e3, low_self, high_self, low_of_highs hh, high_of_highs hh]
      rfl
    · have hb : Highs L b := fun p hp => Nat.lt_trans hc (hh p hp)
      have e1 : lowC ((c, y) :: L) b = [] := low_of_highs (fun p hp => by rcases List.mem_cons.1 hp with rfl | hp; exact hc; exact hb p hp)
      have e2 : highC ((c, y) :: L) b = (c, y) :: L := high_of_highs (fun p hp => by rcases List.mem_cons.1 hp with rfl | hp; exact hc; exact hb p hp)
      have e3 : getC ((c, y) :: L) b = none := by
        simp only [getC, Option.map_eq_none_iff, List.find?_eq_none]
        intro p hp
        rcases List.mem_cons.1 hp with rfl | hp
        · simp; omega
        · have := hb p hp; simp; omega
      rw [e1, e2, e3]
      rfl
theorem asc_some {L : List (Nat × V)} (h : Asc L) {b : Nat} {y : V} (hg : getC L b = some y) : L = lowC L b ++ (b, y) :: highC L b := by
  have := asc_split h b
  rw [hg] at this
  simpa using this
theorem asc_none {L : List (Nat × V)} (h : Asc L) {b : Nat} (hg : getC L b = none) : L = lowC L b ++ highC L b := by
  have := asc_split h b
  rw [hg] at this
  simpa using this
theorem asc_join {X Y : List (Nat × V)} {b : Nat} (hX : Asc X) (hY : Asc Y) (h1 : Lows X b) (h2 : Highs Y b) : Asc (X ++ Y) :=
  List.pairwise_append.2 ⟨hX, hY, fun p hp q hq => Nat.lt_trans (h1 p hp) (h2 q hq)⟩
theorem asc_cons {Y : List (Nat × V)} {b : Nat} {y : V} (hY : Asc Y) (h2 : Highs Y b) : Asc ((b, y) :: Y) := List.pairwise_cons.2 ⟨h2, hY⟩
theorem asc_low {L : List (Nat × V)} (h : Asc L) (b : Nat) : Asc (lowC L b) := List.Pairwise.filter _ h
theorem asc_high {L : List (Nat × V)} (h : Asc L) (b : Nat) : Asc (highC L b) := List.Pairwise.filter _ h
theorem asc_put {L : List (Nat × V)} (h : Asc L) (b : Nat) (x : V) : Asc (putC L b x) :=
  List.pairwise_append.2 ⟨asc_low h b, asc_cons (asc_high h b) (high_highs L b), fun p hp q hq => by
    have := low_lows L b p hp
    rcases List.mem_cons.1 hq with rfl | hq
    · exact this
    · exact Nat.lt_trans this (high_highs L b q hq)⟩
theorem asc_del {L : List (Nat × V)} (h : Asc L) (b : Nat) : Asc (delC L b) := asc_join (asc_low h b) (asc_high h b) (low_lows L b) (high_highs L b)
theorem byt_put {L : List (Nat × V)} (h : Byt L) {b : Nat} (hb : b < 256) (x : V) : Byt (putC L b x) := fun p hp => by
  rcases List.mem_append.1 hp with hp | hp
  · exact h p (List.mem_filter.1 hp).1
  · rcases List.mem_cons.1 hp with rfl | hp
    · exact hb
    · exact h p (List.mem_filter.1 hp).1
theorem byt_del {L : List (Nat × V)} (h : Byt L) (b : Nat) : Byt (delC L b) := fun p hp => by
  rcases List.mem_append.1 hp with hp | hp <;> exact h p (List.mem_filter.1 hp).1
theorem get_append (X Y : List (Nat × V)) (c : Nat) : getC (X ++ Y) c = (getC X c).or (getC Y c) := by
  simp only [getC, List.find?_append]
  cases X.find? (fun p => decide (p.1 = c)) <;> rfl
theorem get_cons (b : Nat) (y : V) (Y : List (Nat × V)) (c : Nat) : getC ((b, y) :: Y) c = if b = c then some y else getC Y c := by
  by_cases h : b = c <;> simp [getC, List.find?_cons, h]
theorem get_lows {X : List (Nat × V)} {b c : Nat} (h : Lows X b) (hc : b ≤ c) : getC X c = none := by
  simp only [getC, Option.map_eq_none_iff, List.find?_eq_none]
  intro p hp
  have := h p hp
  simp; omega
theorem get_highs {X : List (Nat × V)} {b c : Nat} (h : Highs X b) (hc : c ≤ b) : getC X c = none := by
  simp only [getC, Option.map_eq_none_iff, List.find?_eq_none]
  intro p hp
  have := h p hp
  simp; omega
theorem get_byt {L : List (Nat × V)} (h : Byt L) {c : Nat} (hc : 256 ≤ c) : getC L c = none := get_lows (b := 256) h hc
theorem get_del_ne {L : List (Nat × V)} (h : Asc L) {b c : Nat} (hc : c ≠ b) : getC (lowC L b ++ highC L b) c = getC L c := by
  have := asc_split h b
  generalize hm : (match getC L b with | some y => [(b, y)] | none => []) = m at this
  have hmc : getC m c = none := by
    subst hm
    cases getC L b with
    | none => rfl
    | some y => rw [get_cons, if_neg (fun e => hc e.symm)]; rfl
  rw [this, low_append, low_append, high_append, high_append, low_of_lows (low_lows L b), low_of_highs (high_highs L b), high_of_lows (low_lows L b), high_of_highs (high_highs L b)]
  have e1 : lowC m b = [] := by subst hm; cases getC L b <;> simp [lowC]
  have e2 : highC m b = [] := by subst hm; cases getC L b <;> simp [highC]
  rw [e1, e2]
  simp [get_append, hmc]
theorem get_put {L : List (Nat × V)} (h : Asc L) (b : Nat) (x : V) (c : Nat) : getC (putC L b x) c = if b = c then some x else getC L c := by
  by_cases hc : b = c
  · subst hc
    rw [if_pos rfl]
    unfold putC
    rw [get_append, get_lows (low_lows L b) (Nat.le_refl _), get_cons, if_pos rfl]
    rfl
  · rw [if_neg hc]
    unfold putC
    rw [get_append, get_cons, if_neg hc, ← get_append]
    exact get_del_ne h (fun e => hc e.symm)
theorem get_del {L : List (Nat × V)} (h : Asc L) (b c : Nat) : getC (delC L b) c = if b = c then none else getC L c := by
  by_cases hc : b = c
  · subst hc
    rw [if_pos rfl]
    unfold delC
    rw [get_append, get_lows (low_lows L b) (Nat.le_refl _), get_highs (high_highs L b) (Nat.le_refl _)]
    rfl
  · rw [if_neg hc]
    exact get_del_ne h (fun e => hc e.symm)
theorem len_put_new {L : List (Nat × V)} (h : Asc L) {b : Nat} (x : V) (hg : getC L b = none) : (putC L b x).length = L.length + 1 := by
  have := congrArg List.length (asc_none h hg)
  simp only [List.length_append] at this
  simp only [putC, List.length_append, List.length_cons]
  omega
theorem len_put_old {L : List (Nat × V)} (h : Asc L) {b : Nat} (x : V) {y : V} (hg : getC L b = some y) : (putC L b x).length = L.length := by
  have := congrArg List.length (asc_some h hg)
  simp only [List.length_append, List.length_cons] at this
  simp only [putC, List.length_append, List.length_cons]
  omega
theorem len_del {L : List (Nat × V)} (h : Asc L) {b : Nat} {y : V} (hg : getC L b = some y) : (delC L b).length + 1 = L.length := by
  have := congrArg List.length (asc_some h hg)
  simp only [List.length_append, List.length_cons] at this
  simp only [delC, List.length_append]
  omega
theorem del_none {L : List (Nat × V)} (h : Asc L) {b : Nat} (hg : getC L b = none) : delC L b = L := (asc_none h hg).symm
theorem get_mem {L : List (Nat × V)} {b : Nat} {y : V} (hg : getC L b = some y) : (b, y) ∈ L := by
  simp only [getC, Option.map_eq_some_iff] at hg
  obtain ⟨⟨c, z⟩, hf, rfl⟩ := hg
  have h1 := List.find?_some hf
  have h2 := List.mem_of_find?_eq_some hf
  simp at h1
  subst h1
  exact h2
theorem get_of_mem {L : List (Nat × V)} (h : Asc L) {b : Nat} {y : V} (hm : (b, y) ∈ L) : getC L b = some y := by
  obtain ⟨X, Y, rfl⟩ := List.append_of_mem hm
  have h2 := List.pairwise_append.1 h
  rw [get_append, get_lows (b := b) (fun p hp => h2.2.2 p hp _ (List.mem_cons_self ..)) (Nat.le_refl _), get_cons, if_pos rfl]
  rfl
theorem len_from : ∀ {L : List (Nat × V)} {k : Nat}, Asc L → Byt L → (∀ p ∈ L, k ≤ p.1) → k ≤ 256 → L.length + k ≤ 256
  | [], k, _, _, _, hk => by simpa using hk
  | p :: L, k, h, hb, hl, hk => by
    have h1 := hl p (List.mem_cons_self ..)
    have h2 := hb p (List.mem_cons_self ..)
    have := len_from (k := p.1 + 1) h.tail (fun q hq => hb q (List.mem_cons_of_mem _ hq)) (fun q hq => h.head q hq) h2
    simp only [List.length_cons]
    omega
theorem len_byt {L : List (Nat × V)} (h : Asc L) (hb : Byt L) : L.length ≤ 256 := by simpa using len_from h hb (k := 0) (fun _ _ => Nat.zero_le _) (by decide)
theorem nxt_mid {X Y : List (Nat × V)} {p : Nat × V} {b : Nat} (hX : Lows X b) (hp : b ≤ p.1) : nxtC (X ++ p :: Y) b = some p := by
  simp only [nxtC, List.find?_append]
  rw [List.find?_eq_none.2 (fun q hq => by have := hX q hq; simp; omega)]
  simp [List.find?_cons, hp]
theorem nxt_end {X : List (Nat × V)} {b : Nat} (hX : Lows X b) : nxtC X b = none := List.find?_eq_none.2 (fun q hq => by have := hX q hq; simp; omega)
/-- Found by going over all bytes. -/
theorem nxt_at {L : List (Nat × V)} (h : Asc L) {b i : Nat} {x : V} (hbi : b ≤ i) (hno : ∀ j, b ≤ j → j < i → getC L j = none) (hi : getC L i = some x) : nxtC L b = some (i, x) := by
  have hs := asc_some h hi
  have key : nxtC (lowC L i ++ (i, x) :: highC L i) b = some (i, x) := nxt_mid (fun p hp => by
    refine Nat.lt_of_not_le fun hle => ?_
    have h1 := low_lows L i p hp
    have := get_of_mem h (b := p.1) (y := p.2) (List.mem_filter.1 hp).1
    rw [hno p.1 hle h1] at this
    cases this) hbi
  rw [← hs] at key
  exact key
theorem nxt_not {L : List (Nat × V)} (h : Asc L) (hb : Byt L) {b : Nat} (hno : ∀ j, b ≤ j → j < 256 → getC L j = none) : nxtC L b = none := nxt_end (fun p hp => by
    refine Nat.lt_of_not_le fun hle => ?_
    have := get_of_mem h (b := p.1) (y := p.2) hp
    rw [hno p.1 hle (hb p hp)] at this
    cases this)
theorem nxt_behind {X Y : List (Nat × V)} {p : Nat × V} (h : Asc (X ++ p :: Y)) : nxtC (X ++ p :: Y) (p.1 + 1) = Y.head? := by
  have h2 := List.pairwise_append.1 h
  have hh := (List.pairwise_cons.1 h2.2.1).1
  have hl : Lows (X ++ [p]) (p.1 + 1) := fun q hq => by
    rcases List.mem_append.1 hq with hq | hq
    · have := h2.2.2 q hq p (List.mem_cons_self ..); omega
    · rw [List.mem_singleton.1 hq]; omega
  rw [show X ++ p :: Y = (X ++ [p]) ++ Y by simp]
  cases Y with
  | nil => rw [List.append_nil]; exact nxt_end hl
  | cons q Y => exact nxt_mid hl (hh q (List.mem_cons_self ..))
theorem nxt_first {L : List (Nat × V)} : nxtC L 0 = L.head? := by
  cases L with
  | nil => rfl
  | cons q Y => simp [nxtC, List.find?_cons]
theorem asc_ext : ∀ {L M : List (Nat × V)}, Asc L → Asc M → (∀ b, getC L b = getC M b) → L = M
  | [], [], _, _, _ => rfl
  | [], (c, y) :: M, _, _, h => by have := h c; simp [getC] at this
  | (c, y) :: L, [], _, _, h => by have := h c; simp [getC] at this
  | (c, y) :: L, (d, z) :: M, hL, hM, h => by
    have hcd : c = d := by
      rcases Nat.lt_trichotomy c d with hl | hl | hl
      · have := h c
        rw [get_cons, if_pos rfl, get_highs (X := (d, z) :: M) (b := c) (fun p hp => by
          rcases List.mem_cons.1 hp with rfl | hp
          · exact hl
          · exact Nat.lt_trans hl (hM.head p hp)) (Nat.le_refl _)] at this
        cases this
      · exact hl
      · have := h d
        rw [get_cons d z, if_pos rfl, get_highs (X := (c, y) :: L) (b := d) (fun p hp => by
          rcases List.mem_cons.1 hp with rfl | hp
          · exact hl
          · exact Nat.lt_trans hl (hL.head p hp)) (Nat.le_refl _)] at this
        cases this
    subst hcd
    have hyz : y = z := by have := h c; rw [get_cons, get_cons, if_pos rfl, if_pos rfl] at this; exact Option.some.inj this
    subst hyz
    congr 1
    refine asc_ext hL.tail hM.tail fun b => ?_
    by_cases hb : c = b
    · subst hb
      rw [get_highs hL.head (Nat.le_refl _), get_highs hM.head (Nat.le_refl _)]
    · have := h b
      rw [get_cons, get_cons, if_neg hb, if_neg hb] at this
      exact this
end
end Go.Proofs.Ytijlcehjlacihaa
