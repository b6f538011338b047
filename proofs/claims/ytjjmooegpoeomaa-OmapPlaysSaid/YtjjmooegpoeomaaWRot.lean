/-
  Two parts of a row that stand side by side change places.
-/
import Derived.Test.YtjjmooegpoeomaaWSwr
namespace Go.Proofs.Ytjjmooegpoeomaa
open Go.RowKit Go.Lib
set_option linter.unusedVariables false
set_option linter.unusedSimpArgs false

/-- What stands in a turning: i pairs ahead of m, j behind it, that are still to change places. -/
structure Rtt (w0 wr : World) (g cap n m : Nat) (F : List Pr) (ii jj : Nat) : Prop where
  ex : ∃ P A B R, Hx wr g cap (P ++ A ++ B ++ R) ∧ A.length = ii ∧ B.length = jj ∧ P.length + ii = m ∧ P ++ B ++ A ++ R = F
  n : n = F.length
  i0 : 0 < ii
  j0 : 0 < jj
  tu : Turn (fun k => k = g) w0 wr
section
variable {w0 wr : World} {g cap n m : Nat} {F : List Pr} {ii jj : Nat}
theorem Rtt.left (h : Rtt w0 wr g cap n m F ii jj) (hc : cap ≤ maxLen) (hlt : jj < ii) {p : Nat} (hp : p + ii = m) (f : Value) :
    Calls Try.prog 64 #[.slice (some ⟨g, 0, none⟩) n cap, .int .i64 (p : Int), .int .i64 (m : Int), .int .i64 (jj : Int), f] wr fun e w' => e = .returned (.tuple #[]) ∧ Rtt w0 w' g cap n m F (ii - jj) jj := by
  obtain ⟨P, A, B, R, hx, hA, hB, hP, hF⟩ := h.ex
  have hn := h.n
  have hl := congrArg List.length hF
  simp only [List.length_append] at hl
  have hx2 : Hx wr g cap (P ++ A.take jj ++ A.drop jj ++ B ++ R) := by
    have e : P ++ A.take jj ++ A.drop jj ++ B ++ R = P ++ A ++ B ++ R := by rw [List.append_assoc P, List.take_append_drop]
    rw [e]; exact hx
  have t1 : (A.take jj).length = jj := by rw [List.length_take]; omega
  have t2 : (A.drop jj).length = ii - jj := by rw [List.length_drop]; omega
  refine (swr_any (w := wr) (g := g) (cap := cap) P (A.take jj) (A.drop jj) B R hx2 (by omega) hc (n := n) (a := p) (b := m) (m := jj) (by simp only [List.length_append]; omega) (by omega) (by omega) (by omega) f).mono ?_
  rintro e w' ⟨rfl, hx', ht⟩
  refine ⟨rfl, ⟨P ++ B, A.drop jj, A.take jj, R, by simpa using hx', t2, t1, by rw [List.length_append]; omega, ?_⟩, hn, by omega, h.j0, h.tu.trans ht⟩
  rw [← hF, List.append_assoc (P ++ B), List.take_append_drop]
theorem Rtt.right (h : Rtt w0 wr g cap n m F ii jj) (hc : cap ≤ maxLen) (hlt : ii < jj) {p q : Nat} (hp : p + ii = m) (hq : q + ii = m + jj) (f : Value) :
    Calls Try.prog 64 #[.slice (some ⟨g, 0, none⟩) n cap, .int .i64 (p : Int), .int .i64 (q : Int), .int .i64 (ii : Int), f] wr fun e w' => e = .returned (.tuple #[]) ∧ Rtt w0 w' g cap n m F ii (jj - ii) := by
  obtain ⟨P, A, B, R, hx, hA, hB, hP, hF⟩ := h.ex
  have hn := h.n
  have hl := congrArg List.length hF
  simp only [List.length_append] at hl
  have t1 : (B.take (jj - ii)).length = jj - ii := by rw [List.length_take]; omega
  have t2 : (B.drop (jj - ii)).length = ii := by rw [List.length_drop]; omega
  have hx2 : Hx wr g cap (P ++ A ++ B.take (jj - ii) ++ B.drop (jj - ii) ++ R) := by
    have e : P ++ A ++ B.take (jj - ii) ++ B.drop (jj - ii) ++ R = P ++ A ++ B ++ R := by rw [List.append_assoc (P ++ A), List.take_append_drop]
    rw [e]; exact hx
  refine (swr_any (w := wr) (g := g) (cap := cap) P A (B.take (jj - ii)) (B.drop (jj - ii)) R hx2 (by omega) hc (n := n) (a := p) (b := q) (m := ii) (by simp only [List.length_append]; omega) (by omega) (by omega) (by omega) f).mono ?_
  rintro e w' ⟨rfl, hx', ht⟩
  refine ⟨rfl, ⟨P, B.drop (jj - ii), B.take (jj - ii), A ++ R, by simpa using hx', t2, t1, hP, ?_⟩, hn, h.i0, by omega, h.tu.trans ht⟩
  rw [← hF, List.append_assoc P, List.take_append_drop]
  simp
theorem Rtt.last (h : Rtt w0 wr g cap n m F ii ii) (hc : cap ≤ maxLen) {p : Nat} (hp : p + ii = m) (f : Value) :
    Calls Try.prog 64 #[.slice (some ⟨g, 0, none⟩) n cap, .int .i64 (p : Int), .int .i64 (m : Int), .int .i64 (ii : Int), f] wr fun e w' => e = .returned (.tuple #[]) ∧ Hx w' g cap F ∧ Turn (fun k => k = g) w0 w' := by
  obtain ⟨P, A, B, R, hx, hA, hB, hP, hF⟩ := h.ex
  have hn := h.n
  have hl := congrArg List.length hF
  simp only [List.length_append] at hl
  refine (swr_any (w := wr) (g := g) (cap := cap) P A [] B R (by simpa using hx) (by omega) hc (n := n) (a := p) (b := m) (m := ii) (by simp only [List.length_append, List.length_nil]; omega) (by omega) (by simp; omega) (by omega) f).mono ?_
  rintro e w' ⟨rfl, hx', ht⟩
  refine ⟨rfl, ?_, h.tu.trans ht⟩
  rw [← hF]
  simpa using hx'
end

set_option maxHeartbeats 2000000 in
theorem rot_any {w : World} {g cap : Nat} (P A B R : List Pr) (h : Hx w g cap (P ++ A ++ B ++ R)) (hA : 0 < A.length) (hB : 0 < B.length) (hc : cap ≤ maxLen) {n a m b : Nat} (hn : n = (P ++ A ++ B ++ R).length) (ha : a = P.length) (hm : m = P.length + A.length) (hb : b = P.length + A.length + B.length) (f : Value) :
    Calls Try.prog 62 #[.slice (some ⟨g, 0, none⟩) n cap, .int .i64 (a : Int), .int .i64 (m : Int), .int .i64 (b : Int), f] w fun e w' => e = .returned (.tuple #[]) ∧ Hx w' g cap (P ++ B ++ A ++ R) ∧ Turn (fun k => k = g) w w' := by
  have hfit := h.fits
  rw [← hn] at hfit
  simp only [List.length_append] at hn
  have CL := Lib.hid fun (wr : World) (ii jj p : Nat) (hr : Rtt w wr g cap n m (P ++ B ++ A ++ R) ii jj) (hlt : jj < ii) (hp : p + ii = m) => hr.left hc hlt hp f
  have CR := Lib.hid fun (wr : World) (ii jj p q : Nat) (hr : Rtt w wr g cap n m (P ++ B ++ A ++ R) ii jj) (hlt : ii < jj) (hp : p + ii = m) (hq : q + ii = m + jj) => hr.right hc hlt hp hq f
  have CE := Lib.hid fun (wr : World) (ii p : Nat) (hr : Rtt w wr g cap n m (P ++ B ++ A ++ R) ii ii) (hp : p + ii = m) => hr.last hc hp f
  obtain ⟨i0, hi0⟩ : ∃ i, i = A.length := ⟨_, rfl⟩
  obtain ⟨j0, hj0⟩ : ∃ i, i = B.length := ⟨_, rfl⟩
  have H0 : Hid (Rtt w w g cap n m (P ++ B ++ A ++ R) i0 j0) := Lib.hid ⟨⟨P, A, B, R, h, hi0.symm, hj0.symm, by omega, rfl⟩, by simp only [List.length_append]; omega, by omega, by omega, Turn.refl _ _⟩
  have q1 : (m : Int) - (a : Int) = (i0 : Int) := by omega
  have q2 : (b : Int) - (m : Int) = (j0 : Int) := by omega
  have b1 : b ≤ n := by omega
  have b2 : m + j0 = b := by omega
  have b3 : i0 ≤ m := by omega
  unfold maxLen at hc
  clear hn ha hm hb hi0 hj0 h hA hB
  go_enter Try.func62, Try.ntmps62
  go_wp2_with fail
  go_loopw [10, 11] (fun i j wr => ∃ ii jj : Nat, ii ≤ m ∧ m + jj ≤ b ∧ i = .int .i64 (ii : Int) ∧ j = .int .i64 (jj : Int) ∧ Hid (Rtt w wr g cap n m (P ++ B ++ A ++ R) ii jj)) (fun i j _ => (RowKit.intOf i).toNat + (RowKit.intOf j).toNat)
  case atStart => exact ⟨i0, j0, by omega, by omega, rfl, rfl, H0⟩
  case round =>
    obtain ⟨ii, jj, h1, h2, rfl, rfl, HP⟩ := hrel
    have hi0 := HP.out.i0
    have hj0 := HP.out.j0
    obtain ⟨p, hp⟩ : ∃ p, p + ii = m := ⟨m - ii, by omega⟩
    have q3 : (m : Int) - (ii : Int) = (p : Int) := by omega
    clear H0
    by_cases heq : ii = jj
    · subst heq
      have C := Lib.hid (CE.out wr ii p HP.out hp)
      clear CL CR CE
      go_wp2_with (go_at_call 64; refine C.out.mono ?_; rintro e w2 ⟨rfl, h2, h3⟩; have HE := Lib.hid (And.intro h2 h3); clear h2 h3)
      go_end0
      exact ⟨rfl, HE.out⟩
    · by_cases hlt : jj < ii
      · have C := Lib.hid (CL.out wr ii jj p HP.out hlt hp)
        obtain ⟨i2, hi2⟩ : ∃ i2, ii - jj = i2 := ⟨_, rfl⟩
        rw [hi2] at C
        have q4 : (ii : Int) - (jj : Int) = (i2 : Int) := by omega
        have hl1 : (jj : Int) < (ii : Int) := by omega
        clear CL CR CE
        go_wp2_with (go_at_call 64; refine C.out.mono ?_; rintro e w2 ⟨rfl, h2⟩; have HE := Lib.hid h2; clear h2)
        exact ⟨⟨i2, jj, by omega, by omega, by go_num, rfl, HE⟩, by simp [RowKit.intOf]; omega⟩
      · obtain ⟨q, hq⟩ : ∃ q, q + ii = m + jj := ⟨m + jj - ii, by omega⟩
        have C := Lib.hid (CR.out wr ii jj p q HP.out (by omega) hp hq)
        obtain ⟨j2, hj2⟩ : ∃ j2, jj - ii = j2 := ⟨_, rfl⟩
        rw [hj2] at C
        have q4 : (jj : Int) - (ii : Int) = (j2 : Int) := by omega
        have q5 : (m : Int) + (jj : Int) - (ii : Int) = (q : Int) := by omega
        have hl1 : ¬ (jj : Int) < (ii : Int) := by omega
        clear CL CR CE
        go_wp2_with (go_at_call 64; refine C.out.mono ?_; rintro e w2 ⟨rfl, h2⟩; have HE := Lib.hid h2; clear h2)
        exact ⟨⟨ii, j2, by omega, by omega, rfl, by go_num, HE⟩, by simp [RowKit.intOf]; omega⟩
end Go.Proofs.Ytjjmooegpoeomaa
