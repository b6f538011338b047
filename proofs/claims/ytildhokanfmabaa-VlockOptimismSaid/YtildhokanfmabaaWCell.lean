/-
  What the methods of a cell come to: of a nil one, and of one in whose block a word stands.
-/
import Derived.Test.YtildhokanfmabaaWWords
import Derived.Laws.LoneSync
namespace Go.Proofs.Ytildhokanfmabaa
open Go.RowKit
set_option linter.unusedVariables false

/-- Block g is a cell with the word v. -/
structure Cel (w : World) (g v : Nat) : Prop where
  at_ : At w g (.cells #[.int .u64 (v : Int)] 34 (0, 0))
  lt : v < 18446744073709551616
theorem Cel.cell {w : World} {g v : Nat} (h : Cel w g v) : w.cell? ⟨g, 0, none⟩ = some (.int .u64 (v : Int)) := by simpa using h.at_.cell 0
theorem Cel.thaw {w : World} {g v : Nat} (h : Cel w g v) : w.frozen? ⟨g, 0, none⟩ = false := h.at_.thawed 0
theorem Cel.set {w : World} {g v : Nat} (h : Cel w g v) (u : Nat) (hu : u < 18446744073709551616) : Cel (w.setCell ⟨g, 0, none⟩ (.int .u64 (u : Int))) g u :=
  ⟨by simpa using h.at_.set 0 (.int .u64 (u : Int)), hu⟩
theorem Cel.turn {w w' : World} {g v : Nat} {X : Nat → Prop} (h : Cel w g v) (t : Turn X w w') (hg : ¬ X g) : Cel w' g v := ⟨h.at_.turn t hg, h.lt⟩
theorem Cel.lt_size {w : World} {g v : Nat} (h : Cel w g v) : g < w.heap.size := h.at_.lt
theorem set_turn (w : World) (g : Nat) (u : Value) : Turn (· = g) w (w.setCell ⟨g, 0, none⟩ u) := (Turn.refl (fun i => i = g) w).setCell (p := ⟨g, 0, none⟩) (Or.inl rfl) u

theorem aload {w : World} {g v : Nat} (h : Cel w g v) : Calls Try.prog 33 #[.pointer (some ⟨g, 0, none⟩)] w fun e w' => e = .returned (.int .u64 (v : Int)) ∧ w' = w := by
  have hl := run_call_load (P := Try.prog) Try.func38 (by kernel_rfl) (by kernel_rfl) (by kernel_rfl) .u64 (by kernel_rfl) h.cell
  go_enter Try.func33, Try.ntmps33
  go_wp2
  go_ret
  exact ⟨rfl, rfl⟩
theorem astore {w : World} {g v : Nat} (h : Cel w g v) (u : Nat) : Calls Try.prog 36 #[.pointer (some ⟨g, 0, none⟩), .int .u64 (u : Int)] w fun e w' => e = .returned (.tuple #[]) ∧ w' = w.setCell ⟨g, 0, none⟩ (.int .u64 (u : Int)) := by
  have hl := run_call_store (P := Try.prog) Try.func39 (by kernel_rfl) (by kernel_rfl) (by kernel_rfl) (by kernel_rfl) (k := .u64) (y := (u : Int)) h.cell h.thaw
  go_enter Try.func36, Try.ntmps36
  go_wp2
  go_end0
  exact ⟨rfl, rfl⟩
theorem ahit {w : World} {g v : Nat} (h : Cel w g v) (u : Nat) : Calls Try.prog 37 #[.pointer (some ⟨g, 0, none⟩), .int .u64 (v : Int), .int .u64 (u : Int)] w fun e w' => e = .returned (.bool true) ∧ w' = w.setCell ⟨g, 0, none⟩ (.int .u64 (u : Int)) := by
  have hl := run_call_cas_hit (P := Try.prog) Try.func40 (by kernel_rfl) (by kernel_rfl) (by kernel_rfl) .u64 (by kernel_rfl) (y := (u : Int)) h.cell h.thaw
  go_enter Try.func37, Try.ntmps37
  go_wp2
  go_ret
  exact ⟨rfl, rfl⟩
theorem amiss {w : World} {g v : Nat} (h : Cel w g v) (o u : Nat) (hne : v ≠ o) : Calls Try.prog 37 #[.pointer (some ⟨g, 0, none⟩), .int .u64 (o : Int), .int .u64 (u : Int)] w fun e w' => e = .returned (.bool false) ∧ w' = w := by
  have hl := run_call_cas_miss (P := Try.prog) Try.func40 (by kernel_rfl) (by kernel_rfl) (by kernel_rfl) .u64 (by kernel_rfl) (o := (o : Int)) (y := (u : Int)) h.cell h.thaw (by omega)
  go_enter Try.func37, Try.ntmps37
  go_wp2
  go_ret
  exact ⟨rfl, rfl⟩

theorem load_nil (w : World) : Calls Try.prog 16 #[.pointer none] w fun e w' => e = .returned (.int .u64 0) ∧ w' = w := by
  go_enter Try.func16, Try.ntmps16
  go_wp2
  go_ret
  exact ⟨rfl, rfl⟩
theorem load_any {w : World} {g v : Nat} (h : Cel w g v) : Calls Try.prog 16 #[.pointer (some ⟨g, 0, none⟩)] w fun e w' => e = .returned (.int .u64 (v : Int)) ∧ w' = w := by
  have L := Lib.hid (aload h)
  have hc := h.cell
  clear h
  go_enter Try.func16, Try.ntmps16
  go_wp2_with fail
  refine L.out.mono ?_
  rintro _ _ ⟨rfl, rfl⟩
  go_wp2_with fail
  go_ret
  exact ⟨rfl, rfl⟩
theorem store_nil (u : Nat) (w : World) : Calls Try.prog 27 #[.pointer none, .int .u64 (u : Int)] w fun e w' => e = .returned (.tuple #[]) ∧ w' = w := by
  go_enter Try.func27, Try.ntmps27
  go_wp2
  go_end0
  exact ⟨rfl, rfl⟩
theorem store_any {w : World} {g v : Nat} (h : Cel w g v) (u : Nat) (hu : u < 18446744073709551616) : Calls Try.prog 27 #[.pointer (some ⟨g, 0, none⟩), .int .u64 (u : Int)] w fun e w' => e = .returned (.tuple #[]) ∧ Cel w' g u ∧ Turn (· = g) w w' := by
  have L := Lib.hid (astore h u)
  have K := Lib.hid h
  have hc := h.cell
  clear h
  go_enter Try.func27, Try.ntmps27
  go_wp2_with fail
  refine L.out.mono ?_
  rintro _ _ ⟨rfl, rfl⟩
  go_wp2_with fail
  go_end0
  exact ⟨rfl, K.out.set u hu, set_turn _ g _⟩
theorem cas_nil (o u : Nat) (w : World) : Calls Try.prog 28 #[.pointer none, .int .u64 (o : Int), .int .u64 (u : Int)] w fun e w' => e = .returned (.bool false) ∧ w' = w := by
  go_enter Try.func28, Try.ntmps28
  go_wp2
  go_ret
  exact ⟨rfl, rfl⟩
theorem cas_any {w : World} {g v : Nat} (h : Cel w g v) (o u : Nat) (hu : u < 18446744073709551616) : Calls Try.prog 28 #[.pointer (some ⟨g, 0, none⟩), .int .u64 (o : Int), .int .u64 (u : Int)] w fun e w' => e = .returned (.bool (decide (v = o))) ∧ Cel w' g (if v = o then u else v) ∧ Turn (· = g) w w' := by
  have K := Lib.hid h
  have hc := h.cell
  by_cases ho : v = o
  · subst ho
    have L := Lib.hid (ahit h u)
    clear h
    simp only [decide_true, if_true]
    go_enter Try.func28, Try.ntmps28
    go_wp2_with fail
    refine L.out.mono ?_
    rintro _ _ ⟨rfl, rfl⟩
    go_wp2_with fail
    go_ret
    exact ⟨rfl, K.out.set u hu, set_turn _ g _⟩
  · have L := Lib.hid (amiss h o u ho)
    clear h
    simp only [ho, decide_false, if_false]
    go_enter Try.func28, Try.ntmps28
    go_wp2_with fail
    refine L.out.mono ?_
    rintro _ _ ⟨rfl, rfl⟩
    go_wp2_with fail
    go_ret
    exact ⟨rfl, K.out, Turn.refl _ _⟩

theorem change_lock_nil (w : World) : Calls Try.prog 30 #[.pointer none, .func (.func 10) #[] #[]] w fun e w' => e = .returned (.tuple #[.int .u64 0, .bool false]) ∧ w' = w := by
  go_enter Try.func30, Try.ntmps30
  go_wp2
  go_ret2
  exact ⟨rfl, rfl⟩
theorem change_lock_yes {w : World} {g v : Nat} (h : Cel w g v) (hok : (opn v) = true) : Calls Try.prog 30 #[.pointer (some ⟨g, 0, none⟩), .func (.func 10) #[] #[]] w fun e w' => e = .returned (.tuple #[.int .u64 (v : Int), .bool true]) ∧ Cel w' g (v + 1) ∧ Turn (· = g) w w' := by
  have K := Lib.hid h
  have hc := h.cell
  have L := Lib.hid (aload h)
  have X := lock_any v h.lt w
  have hu : (v + 1) < 18446744073709551616 := by have := h.lt; have := opn_mod.1 hok; omega
  rw [hok] at X
  simp only [if_true] at X
  generalize (v + 1) = u at X hu ⊢
  have X := Lib.hid X
  have Y := Lib.hid (ahit h u)
  clear h hok
  go_enter Try.func30, Try.ntmps30
  go_wp2_with fail
  go_loop [] True 0
  case atStart => trivial
  case round =>
    go_wp2_with fail
    refine L.out.mono ?_
    rintro _ _ ⟨rfl, rfl⟩
    go_wp2_with fail
    refine X.out.mono ?_
    rintro _ _ ⟨rfl, rfl⟩
    go_wp2_with fail
    refine Y.out.mono ?_
    rintro _ _ ⟨rfl, rfl⟩
    go_wp2_with fail
    go_ret2
    exact ⟨rfl, K.out.set u hu, set_turn _ g _⟩
theorem change_lock_no {w : World} {g v : Nat} (h : Cel w g v) (hok : (opn v) = false) : Calls Try.prog 30 #[.pointer (some ⟨g, 0, none⟩), .func (.func 10) #[] #[]] w fun e w' => e = .returned (.tuple #[.int .u64 (v : Int), .bool false]) ∧ w' = w := by
  have hc := h.cell
  have L := Lib.hid (aload h)
  have X := lock_any v h.lt w
  rw [hok] at X
  simp only [Bool.false_eq_true, if_false] at X
  have X := Lib.hid X
  clear h hok
  go_enter Try.func30, Try.ntmps30
  go_wp2_with fail
  go_loop [] True 0
  case atStart => trivial
  case round =>
    go_wp2_with fail
    refine L.out.mono ?_
    rintro _ _ ⟨rfl, rfl⟩
    go_wp2_with fail
    refine X.out.mono ?_
    rintro _ _ ⟨rfl, rfl⟩
    go_wp2_with fail
    go_ret2
    exact ⟨rfl, rfl⟩

theorem take_nil (w : World) : Calls Try.prog 14 #[.pointer none] w fun e w' => e = .returned (.tuple #[.int .u64 0, .bool false]) ∧ w' = w := by
  have L := Lib.hid (change_lock_nil w)
  go_enter Try.func14, Try.ntmps14
  go_wp2_with fail
  refine L.out.mono ?_
  rintro _ _ ⟨rfl, rfl⟩
  go_wp2_with fail
  go_ret2
  exact ⟨rfl, rfl⟩
theorem take_yes {w : World} {g v : Nat} (h : Cel w g v) (hok : (opn v) = true) : Calls Try.prog 14 #[.pointer (some ⟨g, 0, none⟩)] w fun e w' => e = .returned (.tuple #[.int .u64 (v : Int), .bool true]) ∧ Cel w' g (v + 1) ∧ Turn (· = g) w w' := by
  have L := Lib.hid (change_lock_yes h hok)
  clear h hok
  generalize (v + 1) = u at L ⊢
  go_enter Try.func14, Try.ntmps14
  go_wp2_with fail
  refine L.out.mono ?_
  rintro e w1 ⟨rfl, h1⟩
  have H1 := Lib.hid h1
  clear h1
  go_wp2_with fail
  go_ret2
  exact ⟨rfl, H1.out⟩
theorem take_no {w : World} {g v : Nat} (h : Cel w g v) (hok : (opn v) = false) : Calls Try.prog 14 #[.pointer (some ⟨g, 0, none⟩)] w fun e w' => e = .returned (.tuple #[.int .u64 (v : Int), .bool false]) ∧ w' = w := by
  have L := Lib.hid (change_lock_no h hok)
  clear h hok
  go_enter Try.func14, Try.ntmps14
  go_wp2_with fail
  refine L.out.mono ?_
  rintro _ _ ⟨rfl, rfl⟩
  go_wp2_with fail
  go_ret2
  exact ⟨rfl, rfl⟩

theorem change_giveNext_nil (w : World) : Calls Try.prog 30 #[.pointer none, .func (.func 31) #[] #[]] w fun e w' => e = .returned (.tuple #[.int .u64 0, .bool false]) ∧ w' = w := by
  go_enter Try.func30, Try.ntmps30
  go_wp2
  go_ret2
  exact ⟨rfl, rfl⟩
theorem change_giveNext_yes {w : World} {g v : Nat} (h : Cel w g v) (hok : (lck v && !ded v) = true) : Calls Try.prog 30 #[.pointer (some ⟨g, 0, none⟩), .func (.func 31) #[] #[]] w fun e w' => e = .returned (.tuple #[.int .u64 (v : Int), .bool true]) ∧ Cel w' g (unl v) ∧ Turn (· = g) w w' := by
  have K := Lib.hid h
  have hc := h.cell
  have L := Lib.hid (aload h)
  have X := giveNext_any v h.lt w
  have hu : (unl v) < 18446744073709551616 := unl_lt h.lt
  rw [hok] at X
  generalize (unl v) = u at X hu ⊢
  have X := Lib.hid X
  have Y := Lib.hid (ahit h u)
  clear h hok
  go_enter Try.func30, Try.ntmps30
  go_wp2_with fail
  go_loop [] True 0
  case atStart => trivial
  case round =>
    go_wp2_with fail
    refine L.out.mono ?_
    rintro _ _ ⟨rfl, rfl⟩
    go_wp2_with fail
    refine X.out.mono ?_
    rintro _ _ ⟨rfl, rfl⟩
    go_wp2_with fail
    refine Y.out.mono ?_
    rintro _ _ ⟨rfl, rfl⟩
    go_wp2_with fail
    go_ret2
    exact ⟨rfl, K.out.set u hu, set_turn _ g _⟩
theorem change_giveNext_no {w : World} {g v : Nat} (h : Cel w g v) (hok : (lck v && !ded v) = false) : Calls Try.prog 30 #[.pointer (some ⟨g, 0, none⟩), .func (.func 31) #[] #[]] w fun e w' => e = .returned (.tuple #[.int .u64 (v : Int), .bool false]) ∧ w' = w := by
  have hc := h.cell
  have L := Lib.hid (aload h)
  have X := giveNext_any v h.lt w
  rw [hok] at X
  generalize (unl v) = u at X
  have X := Lib.hid X
  clear h hok
  go_enter Try.func30, Try.ntmps30
  go_wp2_with fail
  go_loop [] True 0
  case atStart => trivial
  case round =>
    go_wp2_with fail
    refine L.out.mono ?_
    rintro _ _ ⟨rfl, rfl⟩
    go_wp2_with fail
    refine X.out.mono ?_
    rintro _ _ ⟨rfl, rfl⟩
    go_wp2_with fail
    go_ret2
    exact ⟨rfl, rfl⟩

theorem give_nil (w : World) : Calls Try.prog 15 #[.pointer none] w fun e w' => e = .returned (.bool false) ∧ w' = w := by
  have L := Lib.hid (change_giveNext_nil w)
  go_enter Try.func15, Try.ntmps15
  go_wp2_with fail
  refine L.out.mono ?_
  rintro _ _ ⟨rfl, rfl⟩
  go_wp2_with fail
  go_ret
  exact ⟨rfl, rfl⟩
theorem give_yes {w : World} {g v : Nat} (h : Cel w g v) (hok : (lck v && !ded v) = true) : Calls Try.prog 15 #[.pointer (some ⟨g, 0, none⟩)] w fun e w' => e = .returned (.bool true) ∧ Cel w' g (unl v) ∧ Turn (· = g) w w' := by
  have L := Lib.hid (change_giveNext_yes h hok)
  clear h hok
  generalize (unl v) = u at L ⊢
  go_enter Try.func15, Try.ntmps15
  go_wp2_with fail
  refine L.out.mono ?_
  rintro e w1 ⟨rfl, h1⟩
  have H1 := Lib.hid h1
  clear h1
  go_wp2_with fail
  go_ret
  exact ⟨rfl, H1.out⟩
theorem give_no {w : World} {g v : Nat} (h : Cel w g v) (hok : (lck v && !ded v) = false) : Calls Try.prog 15 #[.pointer (some ⟨g, 0, none⟩)] w fun e w' => e = .returned (.bool false) ∧ w' = w := by
  have L := Lib.hid (change_giveNext_no h hok)
  clear h hok
  go_enter Try.func15, Try.ntmps15
  go_wp2_with fail
  refine L.out.mono ?_
  rintro _ _ ⟨rfl, rfl⟩
  go_wp2_with fail
  go_ret
  exact ⟨rfl, rfl⟩

theorem change_endNext_nil (w : World) : Calls Try.prog 30 #[.pointer none, .func (.func 34) #[] #[]] w fun e w' => e = .returned (.tuple #[.int .u64 0, .bool false]) ∧ w' = w := by
  go_enter Try.func30, Try.ntmps30
  go_wp2
  go_ret2
  exact ⟨rfl, rfl⟩
theorem change_endNext_yes {w : World} {g v : Nat} (h : Cel w g v) (hok : (lck v && !ded v) = true) : Calls Try.prog 30 #[.pointer (some ⟨g, 0, none⟩), .func (.func 34) #[] #[]] w fun e w' => e = .returned (.tuple #[.int .u64 (v : Int), .bool true]) ∧ Cel w' g (kil v) ∧ Turn (· = g) w w' := by
  have K := Lib.hid h
  have hc := h.cell
  have L := Lib.hid (aload h)
  have X := endNext_any v h.lt w
  have hu : (kil v) < 18446744073709551616 := kil_lt h.lt
  rw [hok] at X
  generalize (kil v) = u at X hu ⊢
  have X := Lib.hid X
  have Y := Lib.hid (ahit h u)
  clear h hok
  go_enter Try.func30, Try.ntmps30
  go_wp2_with fail
  go_loop [] True 0
  case atStart => trivial
  case round =>
    go_wp2_with fail
    refine L.out.mono ?_
    rintro _ _ ⟨rfl, rfl⟩
    go_wp2_with fail
    refine X.out.mono ?_
    rintro _ _ ⟨rfl, rfl⟩
    go_wp2_with fail
    refine Y.out.mono ?_
    rintro _ _ ⟨rfl, rfl⟩
    go_wp2_with fail
    go_ret2
    exact ⟨rfl, K.out.set u hu, set_turn _ g _⟩
theorem change_endNext_no {w : World} {g v : Nat} (h : Cel w g v) (hok : (lck v && !ded v) = false) : Calls Try.prog 30 #[.pointer (some ⟨g, 0, none⟩), .func (.func 34) #[] #[]] w fun e w' => e = .returned (.tuple #[.int .u64 (v : Int), .bool false]) ∧ w' = w := by
  have hc := h.cell
  have L := Lib.hid (aload h)
  have X := endNext_any v h.lt w
  rw [hok] at X
  generalize (kil v) = u at X
  have X := Lib.hid X
  clear h hok
  go_enter Try.func30, Try.ntmps30
  go_wp2_with fail
  go_loop [] True 0
  case atStart => trivial
  case round =>
    go_wp2_with fail
    refine L.out.mono ?_
    rintro _ _ ⟨rfl, rfl⟩
    go_wp2_with fail
    refine X.out.mono ?_
    rintro _ _ ⟨rfl, rfl⟩
    go_wp2_with fail
    go_ret2
    exact ⟨rfl, rfl⟩

theorem end_nil (w : World) : Calls Try.prog 18 #[.pointer none] w fun e w' => e = .returned (.bool false) ∧ w' = w := by
  have L := Lib.hid (change_endNext_nil w)
  go_enter Try.func18, Try.ntmps18
  go_wp2_with fail
  refine L.out.mono ?_
  rintro _ _ ⟨rfl, rfl⟩
  go_wp2_with fail
  go_ret
  exact ⟨rfl, rfl⟩
theorem end_yes {w : World} {g v : Nat} (h : Cel w g v) (hok : (lck v && !ded v) = true) : Calls Try.prog 18 #[.pointer (some ⟨g, 0, none⟩)] w fun e w' => e = .returned (.bool true) ∧ Cel w' g (kil v) ∧ Turn (· = g) w w' := by
  have L := Lib.hid (change_endNext_yes h hok)
  clear h hok
  generalize (kil v) = u at L ⊢
  go_enter Try.func18, Try.ntmps18
  go_wp2_with fail
  refine L.out.mono ?_
  rintro e w1 ⟨rfl, h1⟩
  have H1 := Lib.hid h1
  clear h1
  go_wp2_with fail
  go_ret
  exact ⟨rfl, H1.out⟩
theorem end_no {w : World} {g v : Nat} (h : Cel w g v) (hok : (lck v && !ded v) = false) : Calls Try.prog 18 #[.pointer (some ⟨g, 0, none⟩)] w fun e w' => e = .returned (.bool false) ∧ w' = w := by
  have L := Lib.hid (change_endNext_no h hok)
  clear h hok
  go_enter Try.func18, Try.ntmps18
  go_wp2_with fail
  refine L.out.mono ?_
  rintro _ _ ⟨rfl, rfl⟩
  go_wp2_with fail
  go_ret
  exact ⟨rfl, rfl⟩
end Go.Proofs.Ytildhokanfmabaa
