/-
  Two parts of a row that stand side by side change places.
  symMerge: what its three calls make of the row, as contracts in words of lists.
-/
import Derived.Test.YtllppkfeiifklaaJ10
import Derived.Test.YtllppkfeiifklaaJ12
namespace Go.Proofs.Ytllppkfeiifklaa
open Go.RowKit Go.Lib
set_option linter.unusedVariables false
set_option maxRecDepth 20000
set_option linter.unusedSimpArgs false

/-- What stands in a turning: i pairs ahead of m, j behind it, that are still to change places. -/
structure Rtt (w0 wr : World) (g cap n m : Nat) (F : List Pr) (ii jj : Nat) : Prop where
  ex : ∃ P A B R, Hx wr g cap (P ++ A ++ B ++ R) ∧ A.length = ii ∧ B.length = jj ∧ P.length + ii = m ∧ P ++ B ++ A ++ R = F
  n : n = F.length
  i0 : 0 < ii
  j0 : 0 < jj
  tu : Turn (fun k => k = g) w0 wr
section
variable {w0 wr : World} {g cap n m : Nat} {F : List Pr} {ii jj : Nat}
theorem Rtt.left (h : Rtt w0 wr g cap n m F ii jj) (hc : cap ≤ maxLen) (hlt : jj < ii) {p : Nat} (hp : p + ii = m) (f : Value) :
    Calls Try.prog 113 #[.slice (some ⟨g, 0, none⟩) n cap, .int .i64 (p : Int), .int .i64 (m : Int), .int .i64 (jj : Int), f] wr fun e w' => e = .returned (.tuple #[]) ∧ Rtt w0 w' g cap n m F (ii - jj) jj := by
  obtain ⟨P, A, B, R, hx, hA, hB, hP, hF⟩ := h.ex
  have hn := h.n
  have hl := congrArg List.length hF
  simp only [List.length_append] at hl
  have hx2 : Hx wr g cap (P ++ A.take jj ++ A.drop jj ++ B ++ R) := by
    have e : P ++ A.take jj ++ A.drop jj ++ B ++ R = P ++ A ++ B ++ R := by rw [List.append_assoc P, List.take_append_drop]
    rw [e]; exact hx
  have t1 : (A.take jj).length = jj := by rw [List.length_take]; omega
  have t2 : (A.drop jj).length = ii - jj := by rw [List.length_drop]; omega
  refine (swr_any (w := wr) (g := g) (cap := cap) P (A.take jj) (A.drop jj) B R hx2 (by omega) hc (n := n) (a := p) (b := m) (m := jj) (by simp only [List.length_append]; omega) (by omega) (by omega) (by omega) f).mono ?_
  rintro e w' ⟨rfl, hx', ht⟩
  refine ⟨rfl, ⟨P ++ B, A.drop jj, A.take jj, R, by simpa using hx', t2, t1, by rw [List.length_append]; omega, ?_⟩, hn, by omega, h.j0, h.tu.trans ht⟩
  rw [← hF, List.append_assoc (P ++ B), List.take_append_drop]
theorem Rtt.right (h : Rtt w0 wr g cap n m F ii jj) (hc : cap ≤ maxLen) (hlt : ii < jj) {p q : Nat} (hp : p + ii = m) (hq : q + ii = m + jj) (f : Value) :
    Calls Try.prog 113 #[.slice (some ⟨g, 0, none⟩) n cap, .int .i64 (p : Int), .int .i64 (q : Int), .int .i64 (ii : Int), f] wr fun e w' => e = .returned (.tuple #[]) ∧ Rtt w0 w' g cap n m F ii (jj - ii) := by
  obtain ⟨P, A, B, R, hx, hA, hB, hP, hF⟩ := h.ex
  have hn := h.n
  have hl := congrArg List.length hF
  simp only [List.length_append] at hl
  have t1 : (B.take (jj - ii)).length = jj - ii := by rw [List.length_take]; omega
  have t2 : (B.drop (jj - ii)).length = ii := by rw [List.length_drop]; omega
  have hx2 : Hx wr g cap (P ++ A ++ B.take (jj - ii) ++ B.drop (jj - ii) ++ R) := by
    have e : P ++ A ++ B.take (jj - ii) ++ B.drop (jj - ii) ++ R = P ++ A ++ B ++ R := by rw [List.append_assoc (P ++ A), List.take_append_drop]
    rw [e]; exact hx
  refine (swr_any (w := wr) (g := g) (cap := cap) P A (B.take (jj - ii)) (B.drop (jj - ii)) R hx2 (by omega) hc (n := n) (a := p) (b := q) (m := ii) (by simp only [List.length_append]; omega) (by omega) (by omega) (by omega) f).mono ?_
  rintro e w' ⟨rfl, hx', ht⟩
  refine ⟨rfl, ⟨P, B.drop (jj - ii), B.take (jj - ii), A ++ R, by simpa using hx', t2, t1, hP, ?_⟩, hn, h.i0, by omega, h.tu.trans ht⟩
  rw [← hF, List.append_assoc P, List.take_append_drop]
  simp
theorem Rtt.last (h : Rtt w0 wr g cap n m F ii ii) (hc : cap ≤ maxLen) {p : Nat} (hp : p + ii = m) (f : Value) :
    Calls Try.prog 113 #[.slice (some ⟨g, 0, none⟩) n cap, .int .i64 (p : Int), .int .i64 (m : Int), .int .i64 (ii : Int), f] wr fun e w' => e = .returned (.tuple #[]) ∧ Hx w' g cap F ∧ Turn (fun k => k = g) w0 w' := by
  obtain ⟨P, A, B, R, hx, hA, hB, hP, hF⟩ := h.ex
  have hn := h.n
  have hl := congrArg List.length hF
  simp only [List.length_append] at hl
  refine (swr_any (w := wr) (g := g) (cap := cap) P A [] B R (by simpa using hx) (by omega) hc (n := n) (a := p) (b := m) (m := ii) (by simp only [List.length_append, List.length_nil]; omega) (by omega) (by simp; omega) (by omega) f).mono ?_
  rintro e w' ⟨rfl, hx', ht⟩
  refine ⟨rfl, ?_, h.tu.trans ht⟩
  rw [← hF]
  simpa using hx'
end

set_option maxHeartbeats 2000000 in
theorem rot_any {w : World} {g cap : Nat} (P A B R : List Pr) (h : Hx w g cap (P ++ A ++ B ++ R)) (hA : 0 < A.length) (hB : 0 < B.length) (hc : cap ≤ maxLen) {n a m b : Nat} (hn : n = (P ++ A ++ B ++ R).length) (ha : a = P.length) (hm : m = P.length + A.length) (hb : b = P.length + A.length + B.length) (f : Value) :
    Calls Try.prog 111 #[.slice (some ⟨g, 0, none⟩) n cap, .int .i64 (a : Int), .int .i64 (m : Int), .int .i64 (b : Int), f] w fun e w' => e = .returned (.tuple #[]) ∧ Hx w' g cap (P ++ B ++ A ++ R) ∧ Turn (fun k => k = g) w w' := by
  have hfit := h.fits
  rw [← hn] at hfit
  simp only [List.length_append] at hn
  have CL := Lib.hid fun (wr : World) (ii jj p : Nat) (hr : Rtt w wr g cap n m (P ++ B ++ A ++ R) ii jj) (hlt : jj < ii) (hp : p + ii = m) => hr.left hc hlt hp f
  have CR := Lib.hid fun (wr : World) (ii jj p q : Nat) (hr : Rtt w wr g cap n m (P ++ B ++ A ++ R) ii jj) (hlt : ii < jj) (hp : p + ii = m) (hq : q + ii = m + jj) => hr.right hc hlt hp hq f
  have CE := Lib.hid fun (wr : World) (ii p : Nat) (hr : Rtt w wr g cap n m (P ++ B ++ A ++ R) ii ii) (hp : p + ii = m) => hr.last hc hp f
  obtain ⟨i0, hi0⟩ : ∃ i, i = A.length := ⟨_, rfl⟩
  obtain ⟨j0, hj0⟩ : ∃ i, i = B.length := ⟨_, rfl⟩
  have H0 : Hid (Rtt w w g cap n m (P ++ B ++ A ++ R) i0 j0) := Lib.hid ⟨⟨P, A, B, R, h, hi0.symm, hj0.symm, by omega, rfl⟩, by simp only [List.length_append]; omega, by omega, by omega, Turn.refl _ _⟩
  have q1 : (m : Int) - (a : Int) = (i0 : Int) := by omega
  have q2 : (b : Int) - (m : Int) = (j0 : Int) := by omega
  have b1 : b ≤ n := by omega
  have b2 : m + j0 = b := by omega
  have b3 : i0 ≤ m := by omega
  unfold maxLen at hc
  clear hn ha hm hb hi0 hj0 h hA hB
  go_enter Try.func111, Try.ntmps111
  go_wp2_with fail
  go_loopw [10, 11] (fun i j wr => ∃ ii jj : Nat, ii ≤ m ∧ m + jj ≤ b ∧ i = .int .i64 (ii : Int) ∧ j = .int .i64 (jj : Int) ∧ Hid (Rtt w wr g cap n m (P ++ B ++ A ++ R) ii jj)) (fun i j _ => (RowKit.intOf i).toNat + (RowKit.intOf j).toNat)
  case atStart => exact ⟨i0, j0, by omega, by omega, rfl, rfl, H0⟩
  case round =>
    obtain ⟨ii, jj, h1, h2, rfl, rfl, HP⟩ := hrel
    have hi0 := HP.out.i0
    have hj0 := HP.out.j0
    obtain ⟨p, hp⟩ : ∃ p, p + ii = m := ⟨m - ii, by omega⟩
    have q3 : (m : Int) - (ii : Int) = (p : Int) := by omega
    clear H0
    by_cases heq : ii = jj
    · subst heq
      have C := Lib.hid (CE.out wr ii p HP.out hp)
      clear CL CR CE
      go_wp2_with (go_at_call 113; refine C.out.mono ?_; rintro e w2 ⟨rfl, h2, h3⟩; have HE := Lib.hid (And.intro h2 h3); clear h2 h3)
      go_end0
      exact ⟨rfl, HE.out⟩
    · by_cases hlt : jj < ii
      · have C := Lib.hid (CL.out wr ii jj p HP.out hlt hp)
        obtain ⟨i2, hi2⟩ : ∃ i2, ii - jj = i2 := ⟨_, rfl⟩
        rw [hi2] at C
        have q4 : (ii : Int) - (jj : Int) = (i2 : Int) := by omega
        have hl1 : (jj : Int) < (ii : Int) := by omega
        clear CL CR CE
        go_wp2_with (go_at_call 113; refine C.out.mono ?_; rintro e w2 ⟨rfl, h2⟩; have HE := Lib.hid h2; clear h2)
        exact ⟨⟨i2, jj, by omega, by omega, by go_num, rfl, HE⟩, by simp [RowKit.intOf]; omega⟩
      · obtain ⟨q, hq⟩ : ∃ q, q + ii = m + jj := ⟨m + jj - ii, by omega⟩
        have C := Lib.hid (CR.out wr ii jj p q HP.out (by omega) hp hq)
        obtain ⟨j2, hj2⟩ : ∃ j2, jj - ii = j2 := ⟨_, rfl⟩
        rw [hj2] at C
        have q4 : (jj : Int) - (ii : Int) = (j2 : Int) := by omega
        have q5 : (m : Int) + (jj : Int) - (ii : Int) = (q : Int) := by omega
        have hl1 : ¬ (jj : Int) < (ii : Int) := by omega
        clear CL CR CE
        go_wp2_with (go_at_call 113; refine C.out.mono ?_; rintro e w2 ⟨rfl, h2⟩; have HE := Lib.hid h2; clear h2)
        exact ⟨⟨ii, j2, by omega, by omega, rfl, by go_num, HE⟩, by simp [RowKit.intOf]; omega⟩
end Go.Proofs.Ytllppkfeiifklaa
namespace Go.Proofs.Ytllppkfeiifklaa
open Go.RowKit Go.Lib
set_option linter.unusedVariables false
set_option maxRecDepth 20000
set_option linter.unusedSimpArgs false

abbrev fv28 : Value := .func (.func 59) #[] #[]
/-- symMerge of at most N pairs. -/
def SymI (N : Nat) : Prop := ∀ (w : World) (g cap : Nat) (P A B R : List Pr) (n a m b : Nat), Hx w g cap (P ++ A ++ B ++ R) → Sd A → Sd B → 0 < A.length → 0 < B.length → A.length + B.length ≤ N → cap ≤ maxLen →
  n ≤ 100000 → n = (P ++ A ++ B ++ R).length → a = P.length → m = a + A.length → b = m + B.length →
  Calls Try.prog 105 #[.slice (some ⟨g, 0, none⟩) n cap, .int .i64 (a : Int), .int .i64 (m : Int), .int .i64 (b : Int), .func (.func 59) #[] #[]] w fun e w' => e = .returned (.tuple #[]) ∧ Srd w' g cap P (A ++ B) R ∧ Turn (fun k => k = g) w w'
/-- Where the parts are cut. -/
structure Cu (P A B R : List Pr) (n a m b mid s e : Nat) : Prop where
  hn : n = (P ++ A ++ B ++ R).length
  few : n ≤ 100000
  ha : a = P.length
  hm : m = a + A.length
  hb : b = m + B.length
  l2 : 2 ≤ A.length
  r2 : 2 ≤ B.length
  mid1 : 2 * mid ≤ a + b
  mid2 : a + b < 2 * mid + 2
  has : a ≤ s
  hsm : s ≤ m
  hsmid : s ≤ mid
  hes : e + s = mid + m
  heb : e ≤ b
section
variable {P A B R : List Pr} {N n a m b mid s e : Nat} {w w0 : World} {g cap : Nat}
abbrev R1 (A B R : List Pr) (a mid s : Nat) : List Pr := A.drop (s - a) ++ B.drop (mid - s) ++ R
abbrev L1 (A B : List Pr) (a mid s : Nat) : List Pr := A.take (s - a) ++ B.take (mid - s)
theorem Cu.t1 (h : Cu P A B R n a m b mid s e) : (A.take (s - a)).length = s - a := by have := h.hsm; have := h.hm; rw [List.length_take]; omega
theorem Cu.t2 (h : Cu P A B R n a m b mid s e) : (A.drop (s - a)).length = m - s := by have := h.hsm; have := h.hm; have := h.has; rw [List.length_drop]; omega
theorem Cu.t3 (h : Cu P A B R n a m b mid s e) : (B.take (mid - s)).length = mid - s := by have := h.hes; have := h.heb; have := h.hb; have := h.hsmid; rw [List.length_take]; omega
theorem Cu.t4 (h : Cu P A B R n a m b mid s e) : (B.drop (mid - s)).length = b - e := by have := h.hes; have := h.heb; have := h.hb; have := h.hsmid; rw [List.length_drop]; omega
theorem Cu.nn (h : Cu P A B R n a m b mid s e) : n = P.length + (s - a) + (mid - s) + (m - s) + (b - e) + R.length := by
  have h1 := h.hn
  simp only [List.length_append] at h1
  have := h.hm; have := h.hb; have := h.has; have := h.hsm; have := h.hsmid; have := h.hes; have := h.heb
  omega
theorem Cu.rot (h : Cu P A B R n a m b mid s e) (hc : cap ≤ maxLen) (h1 : s < m) (h2 : m < e) (hx : Hx w g cap (P ++ A ++ B ++ R)) (f : Value) :
    Calls Try.prog 111 #[.slice (some ⟨g, 0, none⟩) n cap, .int .i64 (s : Int), .int .i64 (m : Int), .int .i64 (e : Int), f] w fun r w' => r = .returned (.tuple #[]) ∧ Hx w' g cap (P ++ L1 A B a mid s ++ R1 A B R a mid s) ∧ Turn (fun k => k = g) w w' := by
  have e1 : P ++ A ++ B ++ R = (P ++ A.take (s - a)) ++ A.drop (s - a) ++ B.take (mid - s) ++ (B.drop (mid - s) ++ R) := by
    calc P ++ A ++ B ++ R = P ++ (A.take (s - a) ++ A.drop (s - a)) ++ (B.take (mid - s) ++ B.drop (mid - s)) ++ R := by rw [List.take_append_drop, List.take_append_drop]
      _ = _ := by simp only [List.append_assoc]
  have t1 := h.t1; have t2 := h.t2; have t3 := h.t3; have t4 := h.t4
  have := h.ha; have := h.hes; have := h.has; have := h.hsmid
  have hn := h.nn
  rw [e1] at hx
  refine (rot_any (w := w) (g := g) (cap := cap) (P ++ A.take (s - a)) (A.drop (s - a)) (B.take (mid - s)) (B.drop (mid - s) ++ R) hx (by omega) (by omega) hc (n := n) (a := s) (m := m) (b := e) ?_ ?_ ?_ ?_ f).mono ?_
  · simp only [List.length_append]; omega
  · rw [List.length_append]; omega
  · rw [List.length_append]; omega
  · rw [List.length_append]; omega
  · rintro r w' ⟨rfl, hx', ht⟩
    exact ⟨rfl, by simpa using hx', ht⟩
theorem Cu.norot (h : Cu P A B R n a m b mid s e) (h1 : ¬ (s < m ∧ m < e)) (hx : Hx w g cap (P ++ A ++ B ++ R)) : Hx w g cap (P ++ L1 A B a mid s ++ R1 A B R a mid s) := by
  have t2 := h.t2; have t3 := h.t3
  have := h.hes; have := h.hsm; have := h.hsmid
  have e1 : P ++ A ++ B ++ R = P ++ (A.take (s - a) ++ A.drop (s - a)) ++ (B.take (mid - s) ++ B.drop (mid - s)) ++ R := by
    rw [List.take_append_drop, List.take_append_drop]
  have hz : A.drop (s - a) = [] ∨ B.take (mid - s) = [] := by
    by_cases h2 : s < m
    · right; exact List.eq_nil_of_length_eq_zero (by omega)
    · left; exact List.eq_nil_of_length_eq_zero (by omega)
  rw [e1] at hx
  rcases hz with hz | hz
  · simp only [L1, R1, hz, List.append_nil, List.nil_append, List.append_assoc] at hx ⊢
    exact hx
  · simp only [L1, R1, hz, List.append_nil, List.nil_append, List.append_assoc] at hx ⊢
    exact hx
theorem Cu.left (h : Cu P A B R n a m b mid s e) (ih : SymI N) (hN : A.length + B.length ≤ N + 1) (hA : Sd A) (hB : Sd B) (hc : cap ≤ maxLen) (h1 : a < s) (h2 : s < mid) (hx : Hx w g cap (P ++ L1 A B a mid s ++ R1 A B R a mid s)) :
    Calls Try.prog 105 #[.slice (some ⟨g, 0, none⟩) n cap, .int .i64 (a : Int), .int .i64 (s : Int), .int .i64 (mid : Int), .func (.func 59) #[] #[]] w fun r w' => r = .returned (.tuple #[]) ∧ Srd w' g cap P (L1 A B a mid s) (R1 A B R a mid s) ∧ Turn (fun k => k = g) w w' := by
  have t1 := h.t1; have t2 := h.t2; have t3 := h.t3; have t4 := h.t4
  have hn := h.nn
  have := h.ha; have := h.hes; have := h.has; have := h.hsmid; have := h.heb; have := h.hm; have := h.hb; have := h.mid1; have := h.mid2; have := h.l2; have := h.r2; have := h.hsm
  refine ih w g cap P (A.take (s - a)) (B.take (mid - s)) (R1 A B R a mid s) n a s mid (by simpa [L1] using hx) (hA.sub (List.take_sublist _ _)) (hB.sub (List.take_sublist _ _)) (by omega) (by omega) (by omega) hc h.few ?_ h.ha (by omega) (by omega)
  simp only [R1, List.length_append]
  omega
theorem Cu.noleft (h : Cu P A B R n a m b mid s e) (hA : Sd A) (hB : Sd B) (h1 : ¬ (a < s ∧ s < mid)) (hx : Hx w g cap (P ++ L1 A B a mid s ++ R1 A B R a mid s)) : Srd w g cap P (L1 A B a mid s) (R1 A B R a mid s) := by
  refine ⟨_, hx, ?_, Sim.refl _⟩
  have t1 := h.t1; have t3 := h.t3
  have := h.has; have := h.hsmid
  unfold L1
  by_cases h2 : a < s
  · have : B.take (mid - s) = [] := List.eq_nil_of_length_eq_zero (by omega)
    rw [this, List.append_nil]
    exact hA.sub (List.take_sublist _ _)
  · have : A.take (s - a) = [] := List.eq_nil_of_length_eq_zero (by omega)
    rw [this, List.nil_append]
    exact hB.sub (List.take_sublist _ _)
/-- What the search has found. -/
structure Fo (A B : List Pr) (a mid s : Nat) : Prop where
  lo : s - a = 0 ∨ mid - s = B.length ∨ ∃ p q, A[s - 1 - a]? = some p ∧ B[mid - s]? = some q ∧ ¬ kl q.k p.k
  hi : s - a = A.length ∨ mid - s = 0 ∨ ∃ p q, A[s - a]? = some p ∧ B[mid - 1 - s]? = some q ∧ kl q.k p.k
theorem Fo.all (h : Fo A B a mid s) {M1 M2 : List Pr} (hA : Sd A) (hB : Sd B) (m1 : Sd M1 ∧ Sim M1 (L1 A B a mid s)) (m2 : Sd M2 ∧ Sim M2 (A.drop (s - a) ++ B.drop (mid - s))) : Sd (M1 ++ M2) ∧ Sim (M1 ++ M2) (A ++ B) := by
  refine merged hA hB ?_ ?_ m1 m2
  · rcases h.lo with e | e | ⟨p, q, hp, hq, hk⟩
    · exact .inl e
    · exact .inr (.inl e)
    · exact .inr (.inr ⟨p, q, by rw [show s - a - 1 = s - 1 - a by omega]; exact hp, hq, hk⟩)
  · rcases h.hi with e | e | ⟨p, q, hp, hq, hk⟩
    · exact .inl e
    · exact .inr (.inl e)
    · exact .inr (.inr ⟨p, q, hp, by rw [show mid - s - 1 = mid - 1 - s by omega]; exact hq, hk⟩)
theorem Cu.right (h : Cu P A B R n a m b mid s e) (ih : SymI N) (hN : A.length + B.length ≤ N + 1) (hA : Sd A) (hB : Sd B) (hf : Fo A B a mid s) (hc : cap ≤ maxLen) (h1 : mid < e) (h2 : e < b) (hx : Srd w g cap P (L1 A B a mid s) (R1 A B R a mid s)) :
    Calls Try.prog 105 #[.slice (some ⟨g, 0, none⟩) n cap, .int .i64 (mid : Int), .int .i64 (e : Int), .int .i64 (b : Int), .func (.func 59) #[] #[]] w fun r w' => r = .returned (.tuple #[]) ∧ Srd w' g cap P (A ++ B) R ∧ Turn (fun k => k = g) w w' := by
  obtain ⟨M1, hx1, hs1, hm1⟩ := hx
  have t1 := h.t1; have t2 := h.t2; have t3 := h.t3; have t4 := h.t4
  have hn := h.nn
  have hl := hm1.len
  simp only [L1, List.length_append] at hl
  have := h.ha; have := h.hes; have := h.has; have := h.hsmid; have := h.heb; have := h.hm; have := h.hb; have := h.mid1; have := h.mid2; have := h.l2; have := h.r2; have := h.hsm
  refine (ih w g cap (P ++ M1) (A.drop (s - a)) (B.drop (mid - s)) R n mid e b (by simpa [R1] using hx1) (hA.sub (List.drop_sublist _ _)) (hB.sub (List.drop_sublist _ _)) (by omega) (by omega) (by omega) hc h.few ?_ ?_ (by omega) (by omega)).mono ?_
  · simp only [List.length_append]
    omega
  · rw [List.length_append]
    omega
  · rintro r w' ⟨rfl, ⟨M2, hx2, hs2, hm2⟩, ht⟩
    have := hf.all hA hB ⟨hs1, hm1⟩ ⟨hs2, hm2⟩
    exact ⟨rfl, ⟨M1 ++ M2, by simpa using hx2, this.1, this.2⟩, ht⟩
theorem Cu.noright (h : Cu P A B R n a m b mid s e) (hA : Sd A) (hB : Sd B) (hf : Fo A B a mid s) (h1 : ¬ (mid < e ∧ e < b)) (hx : Srd w g cap P (L1 A B a mid s) (R1 A B R a mid s)) : Srd w g cap P (A ++ B) R := by
  obtain ⟨M1, hx1, hs1, hm1⟩ := hx
  have t2 := h.t2; have t4 := h.t4
  have := h.hes; have := h.hsm; have := h.heb
  have hs : Sd (A.drop (s - a) ++ B.drop (mid - s)) := by
    by_cases h2 : mid < e
    · have : B.drop (mid - s) = [] := List.eq_nil_of_length_eq_zero (by omega)
      rw [this, List.append_nil]
      exact hA.sub (List.drop_sublist _ _)
    · have : A.drop (s - a) = [] := List.eq_nil_of_length_eq_zero (by omega)
      rw [this, List.nil_append]
      exact hB.sub (List.drop_sublist _ _)
  have := hf.all hA hB ⟨hs1, hm1⟩ ⟨hs, Sim.refl _⟩
  exact ⟨M1 ++ (A.drop (s - a) ++ B.drop (mid - s)), by simpa [R1] using hx1, this.1, this.2⟩
/-- The search's two ends. -/
structure Lo (A B : List Pr) (a mid lo s : Nat) : Prop where
  ok : s = lo ∨ ∃ p q, A[s - 1 - a]? = some p ∧ B[mid - s]? = some q ∧ ¬ kl q.k p.k
structure Hi (A B : List Pr) (a mid hi s : Nat) : Prop where
  ok : s = hi ∨ ∃ p q, A[s - a]? = some p ∧ B[mid - 1 - s]? = some q ∧ kl q.k p.k
theorem Lo.up {lo c : Nat} {p q : Pr} (hp : A[c - a]? = some p) (hq : B[mid - 1 - c]? = some q) (hk : ¬ kl q.k p.k) : Lo A B a mid lo (c + 1) :=
  ⟨.inr ⟨p, q, by rw [show c + 1 - 1 - a = c - a by omega]; exact hp, by rw [show mid - (c + 1) = mid - 1 - c by omega]; exact hq, hk⟩⟩
theorem Hi.down {hi c : Nat} {p q : Pr} (hp : A[c - a]? = some p) (hq : B[mid - 1 - c]? = some q) (hk : kl q.k p.k) : Hi A B a mid hi c := ⟨.inr ⟨p, q, hp, hq, hk⟩⟩
theorem fo_of {lo hi : Nat} (h1 : Lo A B a mid lo s) (h2 : Hi A B a mid hi s) (hlo : lo - a = 0 ∨ mid - lo = B.length) (hhi : hi - a = A.length ∨ mid - hi = 0) : Fo A B a mid s := by
  constructor
  · rcases h1.ok with rfl | h
    · rcases hlo with h | h
      · exact .inl h
      · exact .inr (.inl h)
    · exact .inr (.inr h)
  · rcases h2.ok with rfl | h
    · rcases hhi with h | h
      · exact .inl h
      · exact .inr (.inl h)
    · exact .inr (.inr h)
end
end Go.Proofs.Ytllppkfeiifklaa
