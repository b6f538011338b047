/-
  Ahead; Marks.
-/
import Derived.Test.YthopiamiipmobaaWFirst
namespace Go.Proofs.Ythopiamiipmobaa
open Go.RowKit Go.Lib
set_option linter.unusedVariables false
set_option linter.unusedSimpArgs false

theorem Row.drop {w : World} {b o : Nat} {l : List Ev} (h : Row w (some ⟨b, o, none⟩) (ecs l)) (n : Nat) (hn : n ≤ l.length) : Row w (some ⟨b, o + n * 13, none⟩) (ecs (l.drop n)) := by
  intro j u hj
  have e : ecs l = ecs (l.take n) ++ ecs (l.drop n) := by rw [← ecs_append, List.take_append_drop]
  have hl : (ecs (l.take n)).length = n * 13 := by rw [ecs_length, List.length_take, Nat.min_eq_left hn]
  obtain ⟨b', o', hA, hb, hc⟩ := h (n * 13 + j) u (by rw [e, List.getElem?_append_right (by omega), hl, Nat.add_sub_cancel_left]; exact hj)
  injection hA with hA
  injection hA with e1 e2
  subst e1 e2
  exact ⟨_, _, rfl, hb, by rwa [Nat.add_assoc]⟩
theorem Row.take {w : World} {A : Option Addr} {l : List Ev} (h : Row w A (ecs l)) (n : Nat) : Row w A (ecs (l.take n)) := by
  intro j u hj
  refine h j u ?_
  have e : ecs l = ecs (l.take n) ++ ecs (l.drop n) := by rw [← ecs_append, List.take_append_drop]
  rw [e, List.getElem?_append_left (List.getElem?_eq_some_iff.1 hj).1]
  exact hj
def ahead (l : List Ev) (a b : Int) : Bool := match firstAt 3 a l with
  | none => false
  | some n => (firstAt 1 b (l.drop n)).isSome
theorem firstAt_get {kind id : Int} {l : List Ev} {n : Nat} (h : firstAt kind id l = some n) : n < l.length ∧ ∃ e, l[n]? = some e ∧ isAt kind id e = true ∧ ∀ e ∈ l.take n, isAt kind id e = false := by
  unfold firstAt at h
  rw [List.findIdx?_eq_some_iff_getElem] at h
  obtain ⟨hn, h1, h2⟩ := h
  refine ⟨hn, l[n], List.getElem?_eq_getElem hn, h1, fun e he => ?_⟩
  obtain ⟨j, hj⟩ := List.mem_iff_getElem?.1 he
  rw [List.getElem?_take] at hj
  split at hj
  · rename_i hlt
    obtain ⟨hj', rfl⟩ := List.getElem?_eq_some_iff.1 hj
    simpa using h2 j hlt
  · cases hj
set_option maxHeartbeats 1000000 in
theorem ahead_any (a b : Int) (l : List Ev) (A : Option Addr) (cap : Nat) (w : World) (hR : Row w A (ecs l)) (hl : l.length ≤ 100000) (hc : l.length ≤ cap) :
    Calls Try.prog 26 #[.slice A l.length cap, .int .i64 a, .int .i64 b] w fun r w' => r = .returned (.bool (ahead l a b)) ∧ Turn No w w' := by
  have C1 := Lib.hid (first_any 3 a l A cap w hR hl)
  have HR := Lib.hid hR
  clear hR
  unfold ahead
  go_enter Try.func26, Try.ntmps26
  cases hf : firstAt 3 a l with
  | none =>
    rw [hf] at C1
    go_wp2_with (go_at_call 35; refine C1.out.mono ?_; rintro e w7 ⟨rfl, ht7⟩; have HT7 := Lib.hid ht7; clear ht7; simp only [placeI])
    go_ret
    exact ⟨rfl, HT7.out⟩
  | some n =>
    obtain ⟨hn, e0, he0, _⟩ := firstAt_get hf
    obtain ⟨b0, off, hA, _, _⟩ := HR.out.range he0
    subst hA
    have C2 : Hid (∀ W, Turn No w W → Calls Try.prog 35 #[.slice (some ⟨b0, off + n * 13, none⟩) (l.length - n) (cap - n), .int .u8 1, .int .i64 b] W fun r w' => r = .returned (.int .i64 (placeI (firstAt 1 b (l.drop n)))) ∧ Turn No W w') := Lib.hid fun W t => by
      have := first_any 1 b (l.drop n) (some ⟨b0, off + n * 13, none⟩) (cap - n) W ((HR.out.drop n (Nat.le_of_lt hn)).turn t fun _ _ _ h => h) (by rw [List.length_drop]; omega)
      rwa [List.length_drop] at this
    rw [hf] at C1
    simp only [placeI] at C1
    clear he0 hf
    cases hg : firstAt 1 b (l.drop n) with
    | none =>
      rw [hg] at C2
      simp only [placeI] at C2
      go_wp2_with (first | (go_at_call 35; refine C1.out.mono ?_; rintro e w7 ⟨rfl, ht7⟩; have HT7 := Lib.hid ht7; clear ht7) | (go_at_call 35; refine (C2.out _ HT7.out).mono ?_; rintro e w8 ⟨rfl, ht8⟩; have HT8 := Lib.hid ht8; clear ht8))
      go_ret
      exact ⟨rfl, HT7.out.trans HT8.out⟩
    | some n2 =>
      rw [hg] at C2
      simp only [placeI] at C2
      go_wp2_with (first | (go_at_call 35; refine C1.out.mono ?_; rintro e w7 ⟨rfl, ht7⟩; have HT7 := Lib.hid ht7; clear ht7) | (go_at_call 35; refine (C2.out _ HT7.out).mono ?_; rintro e w8 ⟨rfl, ht8⟩; have HT8 := Lib.hid ht8; clear ht8))
      go_ret
      exact ⟨rfl, HT7.out.trans HT8.out⟩
end Go.Proofs.Ythopiamiipmobaa
