/-
  EpochKnown, walked.
-/
import Derived.Test.YthohhehelnkpgaaWKnown
namespace Go.Proofs.Ythohhehelnkpgaa
open Go.RowKit Go.Maps Go.IntWalk Go.Lib
set_option linter.unusedVariables false

def kn0 (sb : Nat) : Ab := ⟨[], [], 0, false⟩
def kn1 (sb : Nat) : Ab := ⟨[(1, 0)], [], 0, false⟩
def kn2 (sb : Nat) : Ab := ⟨[(1, 0)], [FK sb 0], 0, false⟩
def kn3 (sb : Nat) : Ab := ⟨[(1, 0), (2, 1)], [FK sb 0], 0, false⟩
def kn4 (sb : Nat) : Ab := ⟨[(1, 0), (2, 1)], [FK sb 0, FK sb 1], 0, false⟩
def kn5 (sb : Nat) : Ab := ⟨[(2, 1)], [FK sb 0, FK sb 1], 0, false⟩
def kn6 (sb : Nat) : Ab := ⟨[(1, 2), (2, 1)], [FK sb 0, FK sb 1], 0, false⟩
def kn7 (sb : Nat) : Ab := ⟨[(1, 2), (2, 1)], [FK sb 1], 1, false⟩
def kn8 (sb : Nat) : Ab := ⟨[(1, 2)], [FK sb 1], 1, false⟩
def kn9 (sb : Nat) : Ab := ⟨[(1, 2)], [], 2, false⟩
def kn10 (sb : Nat) : Ab := ⟨[(1, 2)], [FK sb 2], 2, false⟩
def kn11 (sb : Nat) : Ab := ⟨[], [FK sb 2], 2, false⟩
def kn12 (sb : Nat) : Ab := ⟨[], [], 3, false⟩

set_option maxRecDepth 100000 in
set_option maxHeartbeats 4000000 in
theorem known_any (w : World) : Calls Try.prog 3 #[] w fun e w' => e = .returned (.bool true) ∧ Below w.heap.size w w' := by
  have hmf : ∀ (fn : Fn) (first cap : Array Value) (w : World), (Instr.makeFunc fn first cap).run Try.prog w = .ok (.func fn first cap) w := fun _ _ _ _ => rfl
  obtain ⟨Z, hZ⟩ : ∃ Z, Z = w.heap.size := ⟨_, rfl⟩
  have N := Lib.hid (new_any (Z := Z) w (by omega))
  go_enter Try.func3, Try.ntmps3
  go_wp2_with fail
  refine N.out.mono ?_
  rintro e w1 ⟨rfl, he1, ht1⟩
  have hs1 := ht1.size
  rw [← hZ] at he1 hs1 ⊢
  have h0 : Hid (KnS w (w1.alloc (.cells #[.string ⟨#[]⟩] 9)) Z Z w1.heap.size (kn0 w1.heap.size)) :=
    Lib.hid ⟨he1.same ((Turn.refl _ w1).alloc _), ⟨At.new w1 _, (fun i f h => by simp [kn0] at h), by omega⟩, Tn.of_same (ht1.alloc _)⟩
  replace hZ := Lib.hid hZ
  clear he1 ht1 hs1
  go_wp2_with fail
  generalize w1.alloc (.cells #[.string ⟨#[]⟩] 9) = v0 at h0 ⊢
  generalize w1.heap.size = sb at h0 ⊢
  have C : Hid (Calls Try.prog 12 #[.pointer (some ⟨Z, 0, none⟩), .int .i64 1] v0 fun e w' => e = .returned (.bool true) ∧ KnS w w' Z Z sb (kn1 sb)) :=
    Lib.hid ((pin_any (t := 1) h0.out.ep (by omega) (by omega) (show 0 < 100000 by omega)).mono fun e w' ⟨h, he, ht⟩ => ⟨h, h0.out.step he ht rfl (fun i f h => by simp [kn1] at h)⟩)
  refine C.out.mono ?_
  rintro e v1 ⟨rfl, h1⟩
  replace h1 := Lib.hid h1
  clear C h0
  go_wp2_with fail
  have C : Hid (Calls Try.prog 13 #[.pointer (some ⟨Z, 0, none⟩), .func (.func 9) #[] #[.pointer (some ⟨sb, 0, none⟩)]] v1 fun e w' => e = .returned (.bool true) ∧ KnS w w' Z Z sb (kn2 sb)) :=
    Lib.hid ((retire_any h1.out.ep (show 0 < 100000 by omega)).mono fun e w' ⟨h, he, ht⟩ => ⟨h, h1.out.step he ht rfl (fun i f h => by
      rcases i with _ | i
      · simp [kn2] at h; subst h; exact ⟨by show 0 + 0 < 3; omega, rfl⟩
      · simp [kn2] at h)⟩)
  refine C.out.mono ?_
  rintro e v2 ⟨rfl, h2⟩
  replace h2 := Lib.hid h2
  clear C h1
  go_wp2_with fail
  have C : Hid (Calls Try.prog 12 #[.pointer (some ⟨Z, 0, none⟩), .int .i64 2] v2 fun e w' => e = .returned (.bool true) ∧ KnS w w' Z Z sb (kn3 sb)) :=
    Lib.hid ((pin_any (t := 2) h2.out.ep (by omega) (by omega) (show 1 < 100000 by omega)).mono fun e w' ⟨h, he, ht⟩ => ⟨h, h2.out.step he ht rfl (fun i f h => by
      rcases i with _ | i
      · simp [kn3] at h; subst h; exact ⟨by show 0 + 0 < 3; omega, rfl⟩
      · simp [kn3] at h)⟩)
  refine C.out.mono ?_
  rintro e v3 ⟨rfl, h3⟩
  replace h3 := Lib.hid h3
  clear C h2
  go_wp2_with fail
  have C : Hid (Calls Try.prog 13 #[.pointer (some ⟨Z, 0, none⟩), .func (.func 10) #[] #[.pointer (some ⟨sb, 0, none⟩)]] v3 fun e w' => e = .returned (.bool true) ∧ KnS w w' Z Z sb (kn4 sb)) :=
    Lib.hid ((retire_any h3.out.ep (show 1 < 100000 by omega)).mono fun e w' ⟨h, he, ht⟩ => ⟨h, h3.out.step he ht rfl (fun i f h => by
      rcases i with _ | _ | i
      · simp [kn4] at h; subst h; exact ⟨by show 0 + 0 < 3; omega, rfl⟩
      · simp [kn4] at h; subst h; exact ⟨by show 0 + 1 < 3; omega, rfl⟩
      · simp [kn4] at h)⟩)
  refine C.out.mono ?_
  rintro e v4 ⟨rfl, h4⟩
  replace h4 := Lib.hid h4
  clear C h3
  go_wp2_with fail
  have C : Hid (Calls Try.prog 14 #[.pointer (some ⟨Z, 0, none⟩)] v4 fun e w' => e = .returned (.int .i64 0) ∧ KnS w w' Z Z sb (kn4 sb)) :=
    Lib.hid ((collect_plain (kn_plain Z Z sb) h4.out.ep rfl h4.out.l).mono fun e w' ⟨h, hl, he, ht⟩ => ⟨h, he, hl, h4.out.tn.trans ht⟩)
  refine C.out.mono ?_
  rintro e v5 ⟨rfl, h5⟩
  replace h5 := Lib.hid h5
  clear C h4
  go_wp2_with fail
  have C : Hid (Calls Try.prog 15 #[.pointer (some ⟨Z, 0, none⟩), .int .i64 1] v5 fun e w' => e = .returned (.bool true) ∧ KnS w w' Z Z sb (kn5 sb)) :=
    Lib.hid ((unpin_any (t := 1) h5.out.ep (by omega) (by omega)).mono fun e w' ⟨h, he, ht⟩ => ⟨h, h5.out.step he ht rfl (fun i f h => by
      rcases i with _ | _ | i
      · simp [kn5] at h; subst h; exact ⟨by show 0 + 0 < 3; omega, rfl⟩
      · simp [kn5] at h; subst h; exact ⟨by show 0 + 1 < 3; omega, rfl⟩
      · simp [kn5] at h)⟩)
  refine C.out.mono ?_
  rintro e v6 ⟨rfl, h6⟩
  replace h6 := Lib.hid h6
  clear C h5
  go_wp2_with fail
  have C : Hid (Calls Try.prog 12 #[.pointer (some ⟨Z, 0, none⟩), .int .i64 1] v6 fun e w' => e = .returned (.bool true) ∧ KnS w w' Z Z sb (kn6 sb)) :=
    Lib.hid ((pin_any (t := 1) h6.out.ep (by omega) (by omega) (show 1 < 100000 by omega)).mono fun e w' ⟨h, he, ht⟩ => ⟨h, h6.out.step he ht rfl (fun i f h => by
      rcases i with _ | _ | i
      · simp [kn6] at h; subst h; exact ⟨by show 0 + 0 < 3; omega, rfl⟩
      · simp [kn6] at h; subst h; exact ⟨by show 0 + 1 < 3; omega, rfl⟩
      · simp [kn6] at h)⟩)
  refine C.out.mono ?_
  rintro e v7 ⟨rfl, h7⟩
  replace h7 := Lib.hid h7
  clear C h6
  go_wp2_with fail
  have C : Hid (Calls Try.prog 14 #[.pointer (some ⟨Z, 0, none⟩)] v7 fun e w' => e = .returned (.int .i64 1) ∧ KnS w w' Z Z sb (kn7 sb)) :=
    Lib.hid ((collect_plain (kn_plain Z Z sb) h7.out.ep rfl h7.out.l).mono fun e w' ⟨h, hl, he, ht⟩ => ⟨h, he, hl, h7.out.tn.trans ht⟩)
  refine C.out.mono ?_
  rintro e v8 ⟨rfl, h8⟩
  replace h8 := Lib.hid h8
  clear C h7
  go_wp2_with fail
  have C : Hid (Calls Try.prog 16 #[.pointer (some ⟨Z, 0, none⟩)] v8 fun e w' => e = .returned (.int .i64 1) ∧ KnS w w' Z Z sb (kn7 sb)) :=
    Lib.hid ((waiting_any h8.out.ep).mono fun e w' ⟨h, hw⟩ => ⟨h, by rw [hw]; exact h8.out⟩)
  refine C.out.mono ?_
  rintro e v9 ⟨rfl, h9⟩
  replace h9 := Lib.hid h9
  clear C h8
  have c1 := h9.out.text 1 rfl
  simp [txt] at c1
  go_wp2_with fail
  clear c1
  have C : Hid (Calls Try.prog 15 #[.pointer (some ⟨Z, 0, none⟩), .int .i64 2] v9 fun e w' => e = .returned (.bool true) ∧ KnS w w' Z Z sb (kn8 sb)) :=
    Lib.hid ((unpin_any (t := 2) h9.out.ep (by omega) (by omega)).mono fun e w' ⟨h, he, ht⟩ => ⟨h, h9.out.step he ht rfl (fun i f h => by
      rcases i with _ | i
      · simp [kn8] at h; subst h; exact ⟨by show 1 + 0 < 3; omega, rfl⟩
      · simp [kn8] at h)⟩)
  refine C.out.mono ?_
  rintro e v10 ⟨rfl, h10⟩
  replace h10 := Lib.hid h10
  clear C h9
  go_wp2_with fail
  have C : Hid (Calls Try.prog 14 #[.pointer (some ⟨Z, 0, none⟩)] v10 fun e w' => e = .returned (.int .i64 1) ∧ KnS w w' Z Z sb (kn9 sb)) :=
    Lib.hid ((collect_plain (kn_plain Z Z sb) h10.out.ep rfl h10.out.l).mono fun e w' ⟨h, hl, he, ht⟩ => ⟨h, he, hl, h10.out.tn.trans ht⟩)
  refine C.out.mono ?_
  rintro e v11 ⟨rfl, h11⟩
  replace h11 := Lib.hid h11
  clear C h10
  go_wp2_with fail
  have C : Hid (Calls Try.prog 13 #[.pointer (some ⟨Z, 0, none⟩), .func (.func 11) #[] #[.pointer (some ⟨sb, 0, none⟩)]] v11 fun e w' => e = .returned (.bool true) ∧ KnS w w' Z Z sb (kn10 sb)) :=
    Lib.hid ((retire_any h11.out.ep (show 2 < 100000 by omega)).mono fun e w' ⟨h, he, ht⟩ => ⟨h, h11.out.step he ht rfl (fun i f h => by
      rcases i with _ | i
      · simp [kn10] at h; subst h; exact ⟨by show 2 + 0 < 3; omega, rfl⟩
      · simp [kn10] at h)⟩)
  refine C.out.mono ?_
  rintro e v12 ⟨rfl, h12⟩
  replace h12 := Lib.hid h12
  clear C h11
  go_wp2_with fail
  have C : Hid (Calls Try.prog 14 #[.pointer (some ⟨Z, 0, none⟩)] v12 fun e w' => e = .returned (.int .i64 0) ∧ KnS w w' Z Z sb (kn10 sb)) :=
    Lib.hid ((collect_plain (kn_plain Z Z sb) h12.out.ep rfl h12.out.l).mono fun e w' ⟨h, hl, he, ht⟩ => ⟨h, he, hl, h12.out.tn.trans ht⟩)
  refine C.out.mono ?_
  rintro e v13 ⟨rfl, h13⟩
  replace h13 := Lib.hid h13
  clear C h12
  go_wp2_with fail
  have C : Hid (Calls Try.prog 15 #[.pointer (some ⟨Z, 0, none⟩), .int .i64 1] v13 fun e w' => e = .returned (.bool true) ∧ KnS w w' Z Z sb (kn11 sb)) :=
    Lib.hid ((unpin_any (t := 1) h13.out.ep (by omega) (by omega)).mono fun e w' ⟨h, he, ht⟩ => ⟨h, h13.out.step he ht rfl (fun i f h => by
      rcases i with _ | i
      · simp [kn11] at h; subst h; exact ⟨by show 2 + 0 < 3; omega, rfl⟩
      · simp [kn11] at h)⟩)
  refine C.out.mono ?_
  rintro e v14 ⟨rfl, h14⟩
  replace h14 := Lib.hid h14
  clear C h13
  go_wp2_with fail
  have C : Hid (Calls Try.prog 14 #[.pointer (some ⟨Z, 0, none⟩)] v14 fun e w' => e = .returned (.int .i64 1) ∧ KnS w w' Z Z sb (kn12 sb)) :=
    Lib.hid ((collect_plain (kn_plain Z Z sb) h14.out.ep rfl h14.out.l).mono fun e w' ⟨h, hl, he, ht⟩ => ⟨h, he, hl, h14.out.tn.trans ht⟩)
  refine C.out.mono ?_
  rintro e v15 ⟨rfl, h15⟩
  replace h15 := Lib.hid h15
  clear C h14
  go_wp2_with fail
  have C : Hid (Calls Try.prog 15 #[.pointer (some ⟨Z, 0, none⟩), .int .i64 1] v15 fun e w' => e = .returned (.bool false) ∧ KnS w w' Z Z sb (kn12 sb)) :=
    Lib.hid ((unpin_any (t := 1) h15.out.ep (by omega) (by omega)).mono fun e w' ⟨h, he, ht⟩ => ⟨h, h15.out.step he ht rfl (fun i f h => by simp [kn12] at h)⟩)
  refine C.out.mono ?_
  rintro e v16 ⟨rfl, h16⟩
  replace h16 := Lib.hid h16
  clear C h15
  go_wp2_with fail
  have C : Hid (Calls Try.prog 17 #[.pointer (some ⟨Z, 0, none⟩)] v16 fun e w' => (∃ A cap, e = .returned (.slice A 0 cap)) ∧ KnS w w' Z Z sb (kn12 sb)) :=
    Lib.hid ((pinned_any h16.out.ep).mono fun e w' ⟨A, cap, B, h, _, _, ht⟩ => ⟨⟨A, cap, h⟩, h16.out.same ht⟩)
  refine C.out.mono ?_
  rintro e v17 ⟨⟨A16, cap16, rfl⟩, h17⟩
  replace h17 := Lib.hid h17
  clear C h16
  have c1 := h17.out.text 3 rfl
  simp [txt] at c1
  go_wp2_with fail
  clear c1
  have AW := Lib.hid (awake_any v17)
  have HT := Lib.hid (h17.out.tn.none (by have := hZ.out; omega))
  clear h17
  refine AW.out.mono ?_
  rintro e v ⟨rfl, ht⟩
  replace HT := Lib.hid (HT.out.trans ht)
  clear ht AW
  go_wp2_with fail
  refine (pin_nil 1 _).mono ?_
  rintro e u0 ⟨rfl, hu⟩
  have hu := hu.symm
  subst hu
  go_wp2_with fail
  refine (unpin_nil 1 _).mono ?_
  rintro e u1 ⟨rfl, hu⟩
  have hu := hu.symm
  subst hu
  go_wp2_with fail
  refine (pinned_nil _).mono ?_
  rintro e u2 ⟨rfl, hu⟩
  have hu := hu.symm
  subst hu
  go_wp2_with fail
  refine (retire_nil _ _).mono ?_
  rintro e u3 ⟨rfl, hu⟩
  have hu := hu.symm
  subst hu
  go_wp2_with fail
  refine (collect_nil _).mono ?_
  rintro e z ⟨rfl, ht⟩
  replace HT := Lib.hid (HT.out.trans ht)
  clear ht
  go_wp2_with fail
  refine (waiting_nil _).mono ?_
  rintro e u5 ⟨rfl, hu⟩
  have hu := hu.symm
  subst hu
  go_wp2_with fail
  go_ret
  exact ⟨rfl, HT.out.below (Nat.le_refl _) (fun _ _ h => h)⟩
end Go.Proofs.Ythohhehelnkpgaa
