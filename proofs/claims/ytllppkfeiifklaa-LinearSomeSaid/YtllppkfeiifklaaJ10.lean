/-
  Less: byte by byte.
  Rows that are sorted, keys that are alike staying in their order: plain facts on lists.
  Two pairs of a row change places; two parts of a row, as long as each other, change places.
-/
import Derived.Test.YtllppkfeiifklaaJ1
import Derived.Test.YtllppkfeiifklaaJ2
import Derived.BigRegion
namespace Go.Proofs.Ytllppkfeiifklaa
open Go.RowKit Go.Lib
set_option linter.unusedVariables false
set_option maxRecDepth 20000
set_option linter.unusedSimpArgs false

theorem getD_at (a : ByteArray) (k : Nat) (h : k < a.size) : a.data.toList.getD k 0 = a[k] := by
  have h' : k < a.data.toList.length := by simpa using h
  rw [List.getD, List.getElem?_eq_getElem h']
  rfl
theorem alike_of {a b : ByteArray} {k : Nat} (ha : k < a.size) (hb : k < b.size) (h : ((a[k].toNat : Int) != (b[k].toNat : Int)) = false) : a.data.toList.getD k 0 = b.data.toList.getD k 0 := by
  rw [getD_at a k ha, getD_at b k hb]
  have h1 : (a[k].toNat : Int) = (b[k].toNat : Int) := by simpa using h
  exact UInt8.toNat_inj.1 (by omega)
theorem cmp_at : ∀ (k : Nat) (a b : List UInt8), (∀ j, j < k → a.getD j 0 = b.getD j 0) → k < a.length → k < b.length → a.getD k 0 ≠ b.getD k 0 → (Math.cmp a b < 0 ↔ (a.getD k 0).toNat < (b.getD k 0).toNat)
  | 0, x :: a, y :: b, _, _, _, hne => by
    simp only [List.getD_cons_zero] at hne ⊢
    rw [Math.cmp_cons]
    by_cases h : x < y
    · rw [if_pos h]
      have := UInt8.lt_iff_toNat_lt.1 h
      simp [this]
    · have h2 : ¬ x.toNat < y.toNat := fun e => h (UInt8.lt_iff_toNat_lt.2 e)
      rw [if_neg h]
      by_cases h3 : y < x
      · rw [if_pos h3]; simp [h2]
      · exfalso
        rcases Math.u8_tri x y with e | e | e
        · exact h e
        · exact hne e
        · exact h3 e
  | k + 1, x :: a, y :: b, hs, ha, hb, hne => by
    have h0 : x = y := by simpa using hs 0 (by omega)
    subst h0
    rw [Math.cmp_eq]
    simp only [List.getD_cons_succ] at hne ⊢
    exact cmp_at k a b (fun j hj => by simpa using hs (j + 1) (by omega)) (by simpa using ha) (by simpa using hb) hne
  | _, [], _, _, h, _, _ => by simp at h
  | _, _ :: _, [], _, _, h, _ => by simp at h
theorem cmp_end : ∀ (k : Nat) (a b : List UInt8), (∀ j, j < k → a.getD j 0 = b.getD j 0) → k ≤ a.length → k ≤ b.length → (k = a.length ∨ k = b.length) → (Math.cmp a b < 0 ↔ a.length < b.length)
  | 0, [], [], _, _, _, _ => by simp [Math.cmp, Lib.compareBytes]
  | 0, [], _ :: _, _, _, _, _ => by simp [Math.cmp, Lib.compareBytes]
  | 0, _ :: _, [], _, _, _, _ => by simp [Math.cmp, Lib.compareBytes]
  | 0, _ :: _, _ :: _, _, _, _, h => by simp at h
  | k + 1, [], _, _, h, _, _ => by simp at h
  | k + 1, _ :: _, [], _, _, h, _ => by simp at h
  | k + 1, x :: a, y :: b, hs, ha, hb, h => by
    have h0 : x = y := by simpa using hs 0 (by omega)
    subst h0
    rw [Math.cmp_eq, cmp_end k a b (fun j hj => by simpa using hs (j + 1) (by omega)) (by simpa using ha) (by simpa using hb) (by simpa using h)]
    simp
instance (a b : ByteArray) : Decidable (kl a b) := by unfold kl; infer_instance
set_option maxHeartbeats 1000000 in
theorem less_any (a b : ByteArray) (w : World) (ha : Fit a) (hb : Fit b) :
    Calls Try.prog 100 #[.string a, .string b] w fun e w' => e = .returned (.bool (decide (kl a b))) ∧ ∃ n, w' = w.drewN n := by
  unfold Fit at ha hb
  obtain ⟨r, hr⟩ : ∃ r, decide (kl a b) = r := ⟨_, rfl⟩
  have HR : Hid ((kl a b → r = true) ∧ (¬ kl a b → r = false)) := Lib.hid ⟨fun h => by rw [← hr]; exact decide_eq_true h, fun h => by rw [← hr]; exact decide_eq_false h⟩
  rw [hr]
  clear hr
  go_enter Try.func100, Try.ntmps100
  go_wp2_with fail
  go_loopw [5] (fun i wr => ∃ k n : Nat, k ≤ a.size ∧ k ≤ b.size ∧ i = .int .i64 (k : Int) ∧ Hid (∀ j, j < k → a.data.toList.getD j 0 = b.data.toList.getD j 0) ∧ wr = w.drewN n) (fun i _ => a.size - (RowKit.intOf i).toNat)
  case atStart => exact ⟨0, 0, Nat.zero_le _, Nat.zero_le _, rfl, Lib.hid fun j hj => by omega, rfl⟩
  case round =>
    obtain ⟨k, n, hka, hkb, rfl, HS, rfl⟩ := hrel
    by_cases h1 : k < a.size
    · have g1 : (k : Int) < (a.size : Int) := by omega
      by_cases h2 : k < b.size
      · have g2 : (k : Int) < (b.size : Int) := by omega
        have g0 : (0 : Int) ≤ (k : Int) := by omega
        by_cases hne : a.data.toList.getD k 0 = b.data.toList.getD k 0
        · have hd : ((a[k].toNat : Int) != (b[k].toNat : Int)) = false := by
            rw [getD_at a k h1, getD_at b k h2] at hne
            rw [hne]
            simp
          have HE := Lib.hid hne
          clear hne
          go_wp2_with fail
          go_quiet (fail)
          all_goals go_wp2_with fail
          all_goals refine ⟨⟨k + 1, _, by omega, by omega, by go_num, Lib.hid fun j hj => ?_, rfl⟩, by simp [RowKit.intOf]; omega⟩
          all_goals (by_cases e : j = k; (subst e; exact HE.out); exact HS.out j (by omega))
        · have hc := cmp_at k _ _ HS.out (by simpa using h1) (by simpa using h2) hne
          rw [getD_at a k h1, getD_at b k h2] at hc hne
          have hd : ((a[k].toNat : Int) != (b[k].toNat : Int)) = true := by
            simp only [bne_iff_ne, ne_eq]
            intro e
            exact hne (UInt8.toNat_inj.1 (by omega))
          have HC := Lib.hid hc
          clear hc hne
          by_cases hlt : a[k].toNat < b[k].toNat
          · have hr : r = true := HR.out.1 (HC.out.2 hlt)
            have hi : (a[k].toNat : Int) < (b[k].toNat : Int) := by omega
            subst hr
            clear hlt
            go_wp2_with fail
            go_quiet (fail)
            all_goals go_wp2_with fail
            all_goals go_quiet (fail)
            all_goals go_wp2_with fail
            all_goals go_ret
            all_goals exact ⟨rfl, _, by rw [World.drewN_drewN, World.drewN_drewN]⟩
          · have hr : r = false := HR.out.2 (fun h => hlt (HC.out.1 h))
            have hi : ¬ (a[k].toNat : Int) < (b[k].toNat : Int) := by omega
            subst hr
            have hdd : decide (a[k].toNat < b[k].toNat) = false := decide_eq_false hlt
            clear hlt
            go_wp2_with fail
            go_quiet (fail)
            all_goals go_wp2_with fail
            all_goals go_quiet (fail)
            all_goals go_wp2_with fail
            all_goals go_ret
            all_goals exact ⟨(by first | rfl | (show Ending.returned (.bool (decide (a[k].toNat < b[k].toNat))) = _; rw [hdd])), _, by rw [World.drewN_drewN, World.drewN_drewN]⟩
      · have g2 : ¬ (k : Int) < (b.size : Int) := by omega
        have hk : k = b.size := by omega
        have hc := cmp_end k _ _ HS.out (by simpa using hka) (by simpa using hkb) (.inr (by simpa using hk))
        have g3 : ¬ (a.size : Int) < (b.size : Int) := by omega
        have hr : r = false := HR.out.2 (fun h => by have := hc.1 h; simp at this; omega)
        subst hr
        clear hc
        go_wp2_with fail
        go_ret
        exact ⟨rfl, n, rfl⟩
    · have g1 : ¬ (k : Int) < (a.size : Int) := by omega
      have hk : k = a.size := by omega
      have hc := cmp_end k _ _ HS.out (by simpa using hka) (by simpa using hkb) (.inl (by simpa using hk))
      by_cases h3 : a.size < b.size
      · have g3 : (a.size : Int) < (b.size : Int) := by omega
        have hr : r = true := HR.out.1 (hc.2 (by simpa using h3))
        subst hr
        clear hc
        go_wp2_with fail
        go_ret
        exact ⟨rfl, n, rfl⟩
      · have g3 : ¬ (a.size : Int) < (b.size : Int) := by omega
        have hr : r = false := HR.out.2 (fun h => by have := hc.1 h; simp at this; omega)
        subst hr
        clear hc
        go_wp2_with fail
        go_ret
        exact ⟨rfl, n, rfl⟩
end Go.Proofs.Ytllppkfeiifklaa
namespace Go.Proofs.Ytllppkfeiifklaa
set_option linter.unusedVariables false
set_option maxRecDepth 20000

theorem le_trans3 {a b c : ByteArray} (h : ¬ kl b a) (k : ¬ kl c b) : ¬ kl c a := fun e => k (kl_lt_le e h)
theorem le_of_lt {a b : ByteArray} (h : kl a b) : ¬ kl b a := kl_asymm h
theorem lt_of_not_le {a b : ByteArray} (h : ¬ kl a b) (hn : a ≠ b) : kl b a := by
  rcases kl_tri a b with h1 | h1 | h1
  · exact absurd h1 h
  · exact absurd h1 hn
  · exact h1
/-- Rising; keys that are alike may stand side by side. -/
def Sd (l : List Pr) : Prop := l.Pairwise fun p q => ¬ kl q.k p.k
/-- The pairs of one key, in their order. -/
def ky (l : List Pr) (k : ByteArray) : List Pr := l.filter fun p => decide (p.k = k)
/-- The same pairs, those of one key in the same order. -/
structure Sim (l m : List Pr) : Prop where
  len : l.length = m.length
  kys : ∀ k, ky l k = ky m k
theorem Sim.refl (l : List Pr) : Sim l l := ⟨rfl, fun _ => rfl⟩
theorem Sim.symm {l m : List Pr} (h : Sim l m) : Sim m l := ⟨h.len.symm, fun k => (h.kys k).symm⟩
theorem Sim.trans {l m n : List Pr} (h : Sim l m) (g : Sim m n) : Sim l n := ⟨h.len.trans g.len, fun k => (h.kys k).trans (g.kys k)⟩
theorem ky_append (l m : List Pr) (k : ByteArray) : ky (l ++ m) k = ky l k ++ ky m k := List.filter_append ..
theorem Sim.append {a b c d : List Pr} (h : Sim a b) (g : Sim c d) : Sim (a ++ c) (b ++ d) :=
  ⟨by rw [List.length_append, List.length_append, h.len, g.len], fun k => by rw [ky_append, ky_append, h.kys, g.kys]⟩
theorem mem_ky {l : List Pr} {p : Pr} {k : ByteArray} : p ∈ ky l k ↔ p ∈ l ∧ p.k = k := by
  unfold ky
  rw [List.mem_filter]
  simp
theorem Sim.mem {l m : List Pr} (h : Sim l m) {p : Pr} (hp : p ∈ l) : p ∈ m := by
  have : p ∈ ky l p.k := mem_ky.2 ⟨hp, rfl⟩
  rw [h.kys] at this
  exact (mem_ky.1 this).1
/-- Parts of other keys may change places. -/
theorem Sim.swap {a b : List Pr} (h : ∀ p ∈ a, ∀ q ∈ b, p.k ≠ q.k) : Sim (a ++ b) (b ++ a) := by
  refine ⟨by rw [List.length_append, List.length_append, Nat.add_comm], fun k => ?_⟩
  rw [ky_append, ky_append]
  cases ha : ky a k with
  | nil => simp
  | cons p t =>
    have hp := mem_ky.1 (show p ∈ ky a k by rw [ha]; exact List.mem_cons_self)
    have : ky b k = [] := by
      rw [List.eq_nil_iff_forall_not_mem]
      intro q hq
      have hq := mem_ky.1 hq
      exact h p hp.1 q hq.1 (hp.2.trans hq.2.symm)
    rw [this]
    simp
theorem Sd.sub {l m : List Pr} (h : Sd l) (s : List.Sublist m l) : Sd m := List.Pairwise.sublist s h
theorem Sd.nil : Sd [] := List.Pairwise.nil
theorem Sd.one (p : Pr) : Sd [p] := List.pairwise_singleton ..
theorem sd_append {l m : List Pr} : Sd (l ++ m) ↔ Sd l ∧ Sd m ∧ ∀ p ∈ l, ∀ q ∈ m, ¬ kl q.k p.k := List.pairwise_append
theorem sd_cons {p : Pr} {l : List Pr} : Sd (p :: l) ↔ (∀ q ∈ l, ¬ kl q.k p.k) ∧ Sd l := List.pairwise_cons
theorem Sd.take_le {l : List Pr} (h : Sd l) {c : Nat} {p : Pr} (hp : l[c]? = some p) : ∀ x ∈ l.take (c + 1), ¬ kl p.k x.k := by
  intro x hx
  have h1 := h.sub (List.take_sublist (c + 1) l)
  rw [List.take_add_one, hp] at h1 hx
  rcases List.mem_append.1 hx with h2 | h2
  · exact (sd_append.1 h1).2.2 x h2 p (by simp)
  · simp at h2
    subst h2
    exact kl_irrefl _
theorem drop_cons {l : List Pr} {c : Nat} {p : Pr} (hp : l[c]? = some p) : l.drop c = p :: l.drop (c + 1) := by
  obtain ⟨hl, rfl⟩ := List.getElem?_eq_some_iff.1 hp
  exact List.drop_eq_getElem_cons hl
theorem Sd.drop_le {l : List Pr} (h : Sd l) {c : Nat} {p : Pr} (hp : l[c]? = some p) : ∀ y ∈ l.drop c, ¬ kl y.k p.k := by
  intro y hy
  have h1 := h.sub (List.drop_sublist c l)
  rw [drop_cons hp] at h1 hy
  rcases List.mem_cons.1 hy with rfl | h2
  · exact kl_irrefl _
  · exact (sd_cons.1 h1).1 y h2
/-- One pair ahead of a sorted part finds its place. -/
theorem ins_right {x : Pr} {B : List Pr} {c : Nat} (hB : Sd B) (hc : c ≤ B.length) (h1 : c = 0 ∨ ∃ p, B[c - 1]? = some p ∧ kl p.k x.k) (h2 : c = B.length ∨ ∃ p, B[c]? = some p ∧ ¬ kl p.k x.k) :
    Sd (B.take c ++ x :: B.drop c) ∧ Sim (B.take c ++ x :: B.drop c) (x :: B) := by
  have lo : ∀ y ∈ B.take c, kl y.k x.k := by
    rcases h1 with rfl | ⟨p, hp, hk⟩
    · simp
    · intro y hy
      rcases Nat.eq_zero_or_pos c with h0 | h0
      · subst h0; simp at hy
      · have := hB.take_le hp y (by rw [Nat.sub_add_cancel h0]; exact hy)
        exact kl_le_lt this hk
  have hi : ∀ y ∈ B.drop c, ¬ kl y.k x.k := by
    rcases h2 with rfl | ⟨p, hp, hk⟩
    · simp
    · intro y hy
      exact le_trans3 hk (hB.drop_le hp y hy)
  refine ⟨sd_append.2 ⟨hB.sub (List.take_sublist _ _), sd_cons.2 ⟨hi, hB.sub (List.drop_sublist _ _)⟩, ?_⟩, ?_⟩
  · intro p hp q hq
    rcases List.mem_cons.1 hq with rfl | hq
    · exact le_of_lt (lo p hp)
    · exact le_of_lt (kl_lt_le (lo p hp) (hi q hq))
  · have e : x :: B = ([x] ++ B.take c) ++ B.drop c := by simp
    rw [e]
    have : B.take c ++ x :: B.drop c = (B.take c ++ [x]) ++ B.drop c := by simp
    rw [this]
    exact (Sim.swap fun p hp q hq => by
      obtain rfl := List.mem_singleton.1 hq
      exact kl_ne (lo p hp)).append (Sim.refl _)
/-- One pair behind a sorted part finds its place. -/
theorem ins_left {x : Pr} {A : List Pr} {c : Nat} (hA : Sd A) (hc : c ≤ A.length) (h1 : c = 0 ∨ ∃ p, A[c - 1]? = some p ∧ ¬ kl x.k p.k) (h2 : c = A.length ∨ ∃ p, A[c]? = some p ∧ kl x.k p.k) :
    Sd (A.take c ++ x :: A.drop c) ∧ Sim (A.take c ++ x :: A.drop c) (A ++ [x]) := by
  have lo : ∀ y ∈ A.take c, ¬ kl x.k y.k := by
    rcases h1 with rfl | ⟨p, hp, hk⟩
    · simp
    · intro y hy
      rcases Nat.eq_zero_or_pos c with h0 | h0
      · subst h0; simp at hy
      · have := hA.take_le hp y (by rw [Nat.sub_add_cancel h0]; exact hy)
        exact le_trans3 this hk
  have hi : ∀ y ∈ A.drop c, kl x.k y.k := by
    rcases h2 with rfl | ⟨p, hp, hk⟩
    · simp
    · intro y hy
      exact kl_lt_le hk (hA.drop_le hp y hy)
  refine ⟨sd_append.2 ⟨hA.sub (List.take_sublist _ _), sd_cons.2 ⟨fun q hq => le_of_lt (hi q hq), hA.sub (List.drop_sublist _ _)⟩, ?_⟩, ?_⟩
  · intro p hp q hq
    rcases List.mem_cons.1 hq with rfl | hq
    · exact lo p hp
    · exact le_of_lt (kl_le_lt (lo p hp) (hi q hq))
  · have e : A ++ [x] = A.take c ++ (A.drop c ++ [x]) := by rw [← List.append_assoc, List.take_append_drop]
    rw [e]
    have : A.take c ++ x :: A.drop c = A.take c ++ ([x] ++ A.drop c) := by simp
    rw [this]
    exact (Sim.refl _).append (Sim.swap fun p hp q hq => by
      obtain rfl := List.mem_singleton.1 hp
      exact kl_ne (hi q hq))
/-- Two sorted parts, each cut in two: merged side by side. -/
theorem merged {A B M1 M2 : List Pr} {s t : Nat} (hA : Sd A) (hB : Sd B) (h1 : s = 0 ∨ t = B.length ∨ ∃ p q, A[s - 1]? = some p ∧ B[t]? = some q ∧ ¬ kl q.k p.k)
    (h2 : s = A.length ∨ t = 0 ∨ ∃ p q, A[s]? = some p ∧ B[t - 1]? = some q ∧ kl q.k p.k)
    (m1 : Sd M1 ∧ Sim M1 (A.take s ++ B.take t)) (m2 : Sd M2 ∧ Sim M2 (A.drop s ++ B.drop t)) : Sd (M1 ++ M2) ∧ Sim (M1 ++ M2) (A ++ B) := by
  have lo : ∀ x ∈ A.take s, ∀ y ∈ B.drop t, ¬ kl y.k x.k := by
    intro x hx y hy
    rcases Nat.eq_zero_or_pos s with h0 | h0
    · subst h0; simp at hx
    · rcases h1 with h | h | ⟨p, q, hp, hq, hk⟩
      · omega
      · subst h; simp at hy
      · exact le_trans3 (le_trans3 (hA.take_le hp x (by rw [Nat.sub_add_cancel h0]; exact hx)) hk) (hB.drop_le hq y hy)
  have hi : ∀ x ∈ A.drop s, ∀ y ∈ B.take t, kl y.k x.k := by
    intro x hx y hy
    rcases Nat.eq_zero_or_pos t with h0 | h0
    · subst h0; simp at hy
    · rcases h2 with h | h | ⟨p, q, hp, hq, hk⟩
      · subst h; simp at hx
      · omega
      · exact kl_lt_le (kl_le_lt (hB.take_le hq y (by rw [Nat.sub_add_cancel h0]; exact hy)) hk) (hA.drop_le hp x hx)
  have hA2 := sd_append.1 (show Sd (A.take s ++ A.drop s) by rw [List.take_append_drop]; exact hA)
  have hB2 := sd_append.1 (show Sd (B.take t ++ B.drop t) by rw [List.take_append_drop]; exact hB)
  refine ⟨sd_append.2 ⟨m1.1, m2.1, fun p hp q hq => ?_⟩, ?_⟩
  · rcases List.mem_append.1 (m1.2.mem hp) with h | h <;> rcases List.mem_append.1 (m2.2.mem hq) with g | g
    · exact hA2.2.2 p h q g
    · exact lo p h q g
    · exact le_of_lt (hi q g p h)
    · exact hB2.2.2 p h q g
  · refine (m1.2.append m2.2).trans ?_
    have e : A ++ B = A.take s ++ ((A.drop s ++ B.take t) ++ B.drop t) := by
      rw [List.append_assoc, List.take_append_drop, ← List.append_assoc, List.take_append_drop]
    have e2 : (A.take s ++ B.take t) ++ (A.drop s ++ B.drop t) = A.take s ++ ((B.take t ++ A.drop s) ++ B.drop t) := by simp
    rw [e, e2]
    exact (Sim.refl _).append ((Sim.swap fun p hp q hq => kl_ne (hi q hq p hp)).append (Sim.refl _))
/-- A pair that goes down. -/
structure Down (M : List Pr) (x : Pr) (N : List Pr) : Prop where
  sd : Sd (M ++ N)
  above : ∀ y ∈ N, kl x.k y.k
theorem Down.start {M : List Pr} (h : Sd M) (x : Pr) : Down M x [] := ⟨by simpa using h, by simp⟩
theorem Down.step {M : List Pr} {x y : Pr} {N : List Pr} (h : Down (M ++ [y]) x N) (hk : kl x.k y.k) : Down M x (y :: N) ∧ Sim (M ++ x :: y :: N) (M ++ y :: x :: N) := by
  refine ⟨⟨by simpa using h.sd, fun z hz => ?_⟩, ?_⟩
  · rcases List.mem_cons.1 hz with rfl | hz
    · exact hk
    · exact h.above z hz
  · refine (Sim.refl _).append ?_
    have := (Sim.swap (a := [x]) (b := [y]) fun p hp q hq => by
      obtain rfl := List.mem_singleton.1 hp
      obtain rfl := List.mem_singleton.1 hq
      exact kl_ne hk).append (Sim.refl N)
    simpa using this
theorem Down.stop {M : List Pr} {x : Pr} {N : List Pr} (h : Down M x N) (hk : M = [] ∨ ∃ M' y, M = M' ++ [y] ∧ ¬ kl x.k y.k) : Sd (M ++ x :: N) := by
  have hs := sd_append.1 h.sd
  refine sd_append.2 ⟨hs.1, sd_cons.2 ⟨fun q hq => le_of_lt (h.above q hq), hs.2.1⟩, fun p hp q hq => ?_⟩
  have hx : ¬ kl x.k p.k := by
    rcases hk with rfl | ⟨M', y, rfl, hy⟩
    · cases hp
    · rcases List.mem_append.1 hp with h1 | h1
      · exact le_trans3 ((sd_append.1 hs.1).2.2 p h1 y (by simp)) hy
      · obtain rfl := List.mem_singleton.1 h1
        exact hy
  rcases List.mem_cons.1 hq with rfl | hq
  · exact hx
  · exact le_of_lt (kl_le_lt hx (h.above q hq))
/-- Blocks of s pairs, each sorted. -/
def Bl (s : Nat) (l : List Pr) : Prop := ∀ t, Sd ((l.drop (t * s)).take s)
theorem Bl.of_sd {l : List Pr} (s : Nat) (h : Sd l) : Bl s l := fun t => h.sub ((List.take_sublist _ _).trans (List.drop_sublist _ _))
theorem Bl.head {s : Nat} {l : List Pr} (h : Bl s l) : Sd (l.take s) := by simpa using h 0
theorem Bl.tail {s : Nat} {l : List Pr} (h : Bl s l) : Bl s (l.drop s) := fun t => by
  have := h (t + 1)
  rw [Nat.succ_mul] at this
  rw [List.drop_drop, Nat.add_comm s]
  exact this
theorem Bl.all {s : Nat} {l : List Pr} (h : Bl s l) (hs : l.length ≤ s) : Sd l := by
  have := h.head
  rwa [List.take_of_length_le hs] at this
theorem Bl.append {s q : Nat} {l m : List Pr} (h : Bl s l) (hq : l.length = q * s) (g : Bl s m) : Bl s (l ++ m) := fun t => by
  rcases Nat.lt_or_ge t q with h1 | h1
  · have h2 : (t + 1) * s ≤ q * s := Nat.mul_le_mul_right _ h1
    rw [Nat.succ_mul] at h2
    rw [List.drop_append_of_le_length (by omega), List.take_append_of_le_length (by rw [List.length_drop]; omega)]
    exact h t
  · have h2 : q * s ≤ t * s := Nat.mul_le_mul_right _ h1
    have e : t * s = l.length + (t - q) * s := by rw [hq, Nat.sub_mul]; omega
    rw [e, List.drop_append]
    simp only [Nat.add_sub_cancel_left]
    rw [List.drop_eq_nil_of_le (by omega), List.nil_append]
    exact g (t - q)
/-- What New makes of a row of pairs. -/
def news (l : List Pr) : List Pr := l.foldl (fun m p => putL m p.k p.v) []
theorem get_ky (l : List Pr) (k : ByteArray) : getL l k = ((ky l k).head?).map Pr.v := by
  unfold getL ky
  rw [List.head?_filter]
theorem get_append (l m : List Pr) (k : ByteArray) : getL (l ++ m) k = (getL l k).or (getL m k) := by
  unfold getL
  rw [List.find?_append]
  cases l.find? (fun p => decide (p.k = k)) <;> simp
theorem get_fold : ∀ (l m : List Pr) (k : ByteArray), getL (l.foldl (fun m p => putL m p.k p.v) m) k = (getL l.reverse k).or (getL m k)
  | [], m, k => by simp [getL]
  | p :: t, m, k => by
    rw [List.foldl_cons, get_fold t, List.reverse_cons, get_append, get_put]
    have : getL [p] k = if k = p.k then some p.v else none := by
      by_cases h : k = p.k
      · simp [getL, h]
      · have h2 : ¬ p.k = k := fun e => h e.symm
        simp [getL, h, h2]
    rw [this]
    cases getL t.reverse k <;> by_cases h : k = p.k <;> simp [h]
theorem get_news (l : List Pr) (k : ByteArray) : getL (news l) k = getL l.reverse k := by
  unfold news
  rw [get_fold]
  simp [getL]
theorem asc_fold : ∀ (l m : List Pr), Asc m → Asc (l.foldl (fun m p => putL m p.k p.v) m)
  | [], m, h => h
  | p :: t, m, h => asc_fold t _ (h.put p.k p.v)
theorem asc_news (l : List Pr) : Asc (news l) := asc_fold l [] List.Pairwise.nil
/-- What is left where, of keys that are alike, the first one stays. -/
structure Cpt (K T : List Pr) : Prop where
  asc : Asc K
  get : ∀ k, getL K k = getL T k
  sub : ∀ p ∈ K, p ∈ T
theorem Cpt.nil : Cpt [] [] := ⟨List.Pairwise.nil, fun _ => rfl, by simp⟩
theorem Cpt.start (p : Pr) : Cpt [p] [p] := ⟨List.pairwise_singleton .., fun _ => rfl, fun _ h => h⟩
theorem Cpt.same {K T : List Pr} {p q : Pr} (h : Cpt K (T ++ [p])) (hq : q.k = p.k) : Cpt K (T ++ [p] ++ [q]) := by
  refine ⟨h.asc, fun k => ?_, fun x hx => List.mem_append.2 (.inl (h.sub x hx))⟩
  rw [h.get, get_append (T ++ [p])]
  by_cases e : q.k = k
  · have h1 : getL (T ++ [p]) k ≠ none := by
      rw [get_append]
      have : getL [p] k = some p.v := by simp [getL, hq ▸ e]
      rw [this]
      cases getL T k <;> simp
    cases hg : getL (T ++ [p]) k with
    | none => exact absurd hg h1
    | some v => simp
  · have : getL [q] k = none := by simp [getL, e]
    rw [this]
    cases getL (T ++ [p]) k <;> simp
theorem Cpt.more {K T : List Pr} {p q : Pr} (h : Cpt K (T ++ [p])) (hs : Sd (T ++ [p] ++ [q])) (hq : q.k ≠ p.k) : Cpt (K ++ [q]) (T ++ [p] ++ [q]) := by
  have hs1 := sd_append.1 hs
  have lt : ∀ x ∈ T ++ [p], kl x.k q.k := by
    intro x hx
    have hp : ¬ kl q.k p.k := hs1.2.2 p (by simp) q (by simp)
    have hpq : kl p.k q.k := lt_of_not_le hp hq
    rcases List.mem_append.1 hx with h1 | h1
    · exact kl_le_lt ((sd_append.1 hs1.1).2.2 x h1 p (by simp)) hpq
    · obtain rfl := List.mem_singleton.1 h1
      exact hpq
  refine ⟨List.pairwise_append.2 ⟨h.asc, List.pairwise_singleton .., fun x hx y hy => ?_⟩, fun k => ?_, fun x hx => ?_⟩
  · obtain rfl := List.mem_singleton.1 hy
    exact lt x (h.sub x hx)
  · rw [get_append, get_append (T ++ [p]), h.get]
  · rcases List.mem_append.1 hx with h1 | h1
    · exact List.mem_append.2 (.inl (h.sub x h1))
    · exact List.mem_append.2 (.inr h1)
/-- Turned round, sorted, and the first of each key left: what New makes. -/
theorem news_of {l S K : List Pr} (h : Sim S l.reverse) (hK : Cpt K S) : K = news l := by
  refine hK.asc.ext (asc_news l) fun k => ?_
  rw [hK.get, get_news, get_ky, get_ky, h.kys]
theorem news_sub {l : List Pr} : ∀ p ∈ news l, p ∈ l := fun p hp => by
  have := (asc_news l).get_of_mem (k := p.k) (v := p.v) hp
  rw [get_news] at this
  exact List.mem_reverse.1 (get_mem this)
end Go.Proofs.Ytllppkfeiifklaa
namespace Go.Proofs.Ytllppkfeiifklaa
open Go.RowKit Go.Lib
set_option linter.unusedVariables false
set_option maxRecDepth 20000
set_option linter.unusedSimpArgs false

theorem pcs_set2 : ∀ (l : List Pr) (i : Nat) (q : Pr), pcs (l.set i q) = ((pcs l).set (i * 2) (.string q.k)).set (i * 2 + 1) (.string q.v)
  | [], i, q => by simp [pcs]
  | p :: t, 0, q => by simp [pcs, Pr.cs]
  | p :: t, i + 1, q => by
    have ih := pcs_set2 t i q
    have e : pcs (p :: t) = .string p.k :: .string p.v :: pcs t := rfl
    have e2 : pcs (p :: t.set i q) = .string p.k :: .string p.v :: pcs (t.set i q) := rfl
    rw [List.set_cons_succ, e, e2, ih, show (i + 1) * 2 = i * 2 + 1 + 1 by omega]
    rfl
/-- A row of pairs at the head of a block. -/
def Hx (w : World) (g cap : Nat) (l : List Pr) : Prop := ∃ cur, Hd w g cap cur l
theorem Hx.set {w : World} {g cap : Nat} {l : List Pr} (h : Hx w g cap l) (i : Nat) (q : Pr) : Hx ((w.setCell ⟨g, i * 2, none⟩ (.string q.k)).setCell ⟨g, i * 2 + 1, none⟩ (.string q.v)) g cap (l.set i q) := by
  obtain ⟨cur, hb, hs, hf, hh⟩ := h
  refine ⟨(cur.set (i * 2) (.string q.k)).set (i * 2 + 1) (.string q.v), ?_, by simpa using hs, by simpa using hf, ?_⟩
  · have := (At.set hb (i * 2) (.string q.k)).set (i * 2 + 1) (.string q.v)
    simpa [Blk] using this
  · rw [List.length_set, List.take_set, List.take_set, hh, pcs_set2]
theorem Hx.turn {X : Nat → Prop} {w w' : World} {g cap : Nat} {l : List Pr} (h : Hx w g cap l) (t : Turn X w w') (hg : ¬ X g) : Hx w' g cap l := by
  obtain ⟨cur, hb, hs, hf, hh⟩ := h
  exact ⟨cur, At.turn hb t hg, hs, hf, hh⟩
theorem Hx.no {w w' : World} {g cap : Nat} {l : List Pr} (h : Hx w g cap l) (t : Turn No w w') : Hx w' g cap l := h.turn t fun h => h
theorem Hx.cells {w : World} {g cap : Nat} {l : List Pr} (h : Hx w g cap l) {i : Nat} {p : Pr} (hp : l[i]? = some p) :
    w.cell? ⟨g, i * 2, none⟩ = some (.string p.k) ∧ w.cell? ⟨g, i * 2 + 1, none⟩ = some (.string p.v) := by
  obtain ⟨cur, hd⟩ := h
  exact ⟨by simpa using hd.cell (j := i * 2 + 0) (u := .string p.k) (by rw [pcs_at hp 0 (by decide)]; rfl), by simpa using hd.cell (j := i * 2 + 1) (u := .string p.v) (by rw [pcs_at hp 1 (by decide)]; rfl)⟩
theorem Hx.thawed {w : World} {g cap : Nat} {l : List Pr} (h : Hx w g cap l) (i : Nat) : w.frozen? ⟨g, i, none⟩ = false := by
  obtain ⟨cur, hd⟩ := h
  exact At.thawed hd.blk i
theorem Hx.lt {w : World} {g cap : Nat} {l : List Pr} (h : Hx w g cap l) : g < w.heap.size := by
  obtain ⟨cur, hd⟩ := h
  exact At.lt hd.blk
theorem Hx.fits {w : World} {g cap : Nat} {l : List Pr} (h : Hx w g cap l) : l.length ≤ cap := by
  obtain ⟨cur, hd⟩ := h
  exact hd.fits
theorem swap_list (P M R : List Pr) (x y : Pr) {i j : Nat} (hi : i = P.length) (hj : j = P.length + 1 + M.length) :
    (P ++ x :: (M ++ y :: R))[i]? = some x ∧ (P ++ x :: (M ++ y :: R))[j]? = some y ∧ ((P ++ x :: (M ++ y :: R)).set i y).set j x = P ++ y :: (M ++ x :: R) ∧ ((P ++ x :: (M ++ y :: R)).set j x).set i y = P ++ y :: (M ++ x :: R) := by
  subst hi hj
  have e2 : P.length + 1 + M.length - P.length = M.length + 1 := by omega
  have a1 : ((P ++ x :: (M ++ y :: R)).set P.length y).set (P.length + 1 + M.length) x = P ++ y :: (M ++ x :: R) := by
    rw [List.set_append_right _ _ (Nat.le_refl _), Nat.sub_self, List.set_cons_zero, List.set_append_right _ _ (by omega), e2, List.set_cons_succ, List.set_append_right _ _ (Nat.le_refl _), Nat.sub_self, List.set_cons_zero]
  refine ⟨by simp, ?_, a1, ?_⟩
  · rw [List.getElem?_append_right (by omega), e2, List.getElem?_cons_succ, List.getElem?_append_right (Nat.le_refl _), Nat.sub_self]
    rfl
  · rw [List.set_comm _ _ (by omega)]
    exact a1
theorem turn4 (w : World) (g a b c d : Nat) (p q r s : Value) : Turn (fun k => k = g) w ((((w.setCell ⟨g, a, none⟩ p).setCell ⟨g, b, none⟩ q).setCell ⟨g, c, none⟩ r).setCell ⟨g, d, none⟩ s) :=
  (((Turn.set1 w g a p).trans (Turn.set1 _ g b q)).trans (Turn.set1 _ g c r)).trans (Turn.set1 _ g d s)
/-- What is read of the two, and what there is behind the stores. -/
structure Sw (w : World) (g cap i j : Nat) (x y : Pr) (L' : List Pr) : Prop where
  xi : w.cell? ⟨g, i * 2, none⟩ = some (.string x.k) ∧ w.cell? ⟨g, i * 2 + 1, none⟩ = some (.string x.v)
  yj : w.cell? ⟨g, j * 2, none⟩ = some (.string y.k) ∧ w.cell? ⟨g, j * 2 + 1, none⟩ = some (.string y.v)
  th : ∀ q, w.frozen? ⟨g, q, none⟩ = false
  one : Hx ((((w.setCell ⟨g, i * 2, none⟩ (.string y.k)).setCell ⟨g, i * 2 + 1, none⟩ (.string y.v)).setCell ⟨g, j * 2, none⟩ (.string x.k)).setCell ⟨g, j * 2 + 1, none⟩ (.string x.v)).drew g cap L'
  two : Hx ((((w.setCell ⟨g, j * 2, none⟩ (.string x.k)).setCell ⟨g, j * 2 + 1, none⟩ (.string x.v)).setCell ⟨g, i * 2, none⟩ (.string y.k)).setCell ⟨g, i * 2 + 1, none⟩ (.string y.v)).drew g cap L'
  tu : ∀ a b c d p q r s, Turn (fun k => k = g) w ((((w.setCell ⟨g, a, none⟩ p).setCell ⟨g, b, none⟩ q).setCell ⟨g, c, none⟩ r).setCell ⟨g, d, none⟩ s).drew
theorem Hx.sw {w : World} {g cap : Nat} {P M R : List Pr} {x y : Pr} (h : Hx w g cap (P ++ x :: (M ++ y :: R))) {i j : Nat} (hi : i = P.length) (hj : j = P.length + 1 + M.length) : Sw w g cap i j x y (P ++ y :: (M ++ x :: R)) := by
  obtain ⟨h1, h2, h3, h4⟩ := swap_list P M R x y hi hj
  refine ⟨h.cells h1, h.cells h2, h.thawed, ?_, ?_, fun a b c d p q r s => (turn4 w g a b c d p q r s).drew⟩
  · rw [← h3]; exact ((h.set i y).set j x).no (Turn.refl No _).drew
  · rw [← h4]; exact ((h.set j x).set i y).no (Turn.refl No _).drew

/-- swapRangeCmpFunc -/
theorem swr_step (P X M Y R : List Pr) {kk : Nat} {x y : Pr} (hx : X[kk]? = some x) (hy : Y[kk]? = some y) :
    P ++ (Y.take kk ++ X.drop kk) ++ M ++ (X.take kk ++ Y.drop kk) ++ R = (P ++ Y.take kk) ++ x :: ((X.drop (kk + 1) ++ M ++ X.take kk) ++ y :: (Y.drop (kk + 1) ++ R)) ∧
    (P ++ Y.take kk) ++ y :: ((X.drop (kk + 1) ++ M ++ X.take kk) ++ x :: (Y.drop (kk + 1) ++ R)) = P ++ (Y.take (kk + 1) ++ X.drop (kk + 1)) ++ M ++ (X.take (kk + 1) ++ Y.drop (kk + 1)) ++ R := by
  constructor
  · rw [drop_cons hx, drop_cons hy]
    simp
  · rw [List.take_add_one, List.take_add_one, hx, hy]
    simp

set_option maxHeartbeats 2000000 in
theorem swr_any {w : World} {g cap : Nat} (P X M Y R : List Pr) (h : Hx w g cap (P ++ X ++ M ++ Y ++ R)) (hXY : X.length = Y.length) (hc : cap ≤ maxLen) {n a b m : Nat} (hn : n = (P ++ X ++ M ++ Y ++ R).length) (ha : a = P.length) (hb : b = P.length + X.length + M.length) (hm : m = X.length) (f : Value) :
    Calls Try.prog 113 #[.slice (some ⟨g, 0, none⟩) n cap, .int .i64 (a : Int), .int .i64 (b : Int), .int .i64 (m : Int), f] w fun e w' => e = .returned (.tuple #[]) ∧ Hx w' g cap (P ++ Y ++ M ++ X ++ R) ∧ Turn (fun k => k = g) w w' := by
  have hfit := h.fits
  rw [← hn] at hfit
  simp only [List.length_append] at hn
  unfold maxLen at hc
  have H0 : Hid (Hx w g cap (P ++ (Y.take 0 ++ X.drop 0) ++ M ++ (X.take 0 ++ Y.drop 0) ++ R)) := Lib.hid (by simpa using h)
  have hmy : m = Y.length := by omega
  have HQ := Lib.hid (And.intro hXY (And.intro ha (And.intro hb hm)))
  clear h hXY
  have hbn : b + m ≤ n := by omega
  have hab : a + m ≤ b := by omega
  clear hn ha hb hmy hm
  go_enter Try.func113, Try.ntmps113
  go_wp2_with fail
  go_loopw [10] (fun i wr => ∃ kk : Nat, kk ≤ m ∧ i = .int .i64 (kk : Int) ∧ Hid (Hx wr g cap (P ++ (Y.take kk ++ X.drop kk) ++ M ++ (X.take kk ++ Y.drop kk) ++ R) ∧ Turn (fun k => k = g) w wr)) (fun i _ => m - (RowKit.intOf i).toNat)
  case atStart => exact ⟨0, Nat.zero_le _, rfl, Lib.hid ⟨H0.out, Turn.refl _ _⟩⟩
  case round =>
    obtain ⟨kk, hm, rfl, HP⟩ := hrel
    clear H0
    by_cases hlt : kk < m
    · have hkx : kk < X.length := by have := HQ.out; omega
      have hky : kk < Y.length := by have := HQ.out; omega
      obtain ⟨x, hx⟩ : ∃ x, X[kk]? = some x := ⟨X[kk], List.getElem?_eq_getElem hkx⟩
      obtain ⟨y, hy⟩ : ∃ y, Y[kk]? = some y := ⟨Y[kk], List.getElem?_eq_getElem hky⟩
      have hs := swr_step P X M Y R hx hy
      have h1 := HP.out.1
      rw [hs.1] at h1
      have hS := h1.sw (i := a + kk) (j := b + kk) (by have := HQ.out; simp; omega) (by have := HQ.out; simp; omega)
      rw [hs.2] at hS
      have HS := Lib.hid hS
      obtain ⟨xk, xv⟩ := x
      obtain ⟨yk, yv⟩ := y
      have x0 := HS.out.xi.1
      have x1 := HS.out.xi.2
      have y0 := HS.out.yj.1
      have y1 := HS.out.yj.2
      have e0 := HS.out.th ((a + kk) * 2)
      have e1 := HS.out.th ((a + kk) * 2 + 1)
      have e2 := HS.out.th ((b + kk) * 2)
      have e3 := HS.out.th ((b + kk) * 2 + 1)
      have d0 : ¬ (a + kk) * 2 = (b + kk) * 2 := by omega
      have d1 : ¬ (a + kk) * 2 + 1 = (b + kk) * 2 := by omega
      have d2 : ¬ (a + kk) * 2 = (b + kk) * 2 + 1 := by omega
      have d3 : ¬ (b + kk) * 2 = (a + kk) * 2 := by omega
      have d4 : ¬ (b + kk) * 2 + 1 = (a + kk) * 2 := by omega
      have d5 : ¬ (b + kk) * 2 = (a + kk) * 2 + 1 := by omega
      have HT := Lib.hid (HP.out.2)
      simp only at x0 x1 y0 y1
      clear hx hy hs h1 hS HP hkx hky
      go_wp2_with fail
      go_region
      all_goals go_wp2_with fail
      all_goals exact ⟨⟨kk + 1, by omega, by go_num, Lib.hid ⟨HS.out.one, HT.out.trans (HS.out.tu _ _ _ _ _ _ _ _)⟩⟩, by simp [RowKit.intOf]; omega⟩
    · obtain rfl : kk = m := by omega
      have hF : Hid (Hx wr g cap (P ++ Y ++ M ++ X ++ R)) := Lib.hid (by
        have h1 := HP.out.1
        have hq := HQ.out
        rw [List.take_of_length_le (by omega), List.take_of_length_le (by omega), List.drop_eq_nil_of_le (by omega), List.drop_eq_nil_of_le (by omega)] at h1
        simpa using h1)
      go_wp2_with fail
      go_end0
      exact ⟨rfl, hF.out, HP.out.2⟩
end Go.Proofs.Ytllppkfeiifklaa
