/-
  VlockWords, walked.
-/
import Derived.Test.YtildhokanfmabaaWRef
import Derived.Test.YtildhokanfmabaaWAwake
namespace Go.Proofs.Ytildhokanfmabaa
open Go.RowKit
set_option linter.unusedVariables false

/-- A world that is w but for new blocks. -/
structure Wx (w : World) where
  wr : World
  t : Turn (fun _ => False) w wr

instance (w : World) : Nonempty (Wx w) := ⟨⟨w, Turn.refl _ w⟩⟩

/-- A region whose operations leave all that was there as it was: one walk, in the order of the text. -/
theorem wp_region_wx {P : Program} {id : Nat} {Q : Exit → Act → World → Prop} {a : Act} {w w0 : World} {l : List Oper} (hm : P.follows .mixedOrders = true) (hB : Region.lexB .any l.toArray = true)
    (hC : Turn (fun _ => False) w0 w)
    (h : wpQuiet P l.toArray (fun w' => ∃ n : Wx w0, w' = n.wr) (fun a' => ∀ w', (∃ n : Wx w0, w' = n.wr) → Q .normal a' w') l a) : (Code.region id l.toArray true).wp P Q a w :=
  wp_region_quiet (C := fun w' => ∃ n : Wx w0, w' = n.wr) hm hB ⟨⟨w.drew, hC.drew⟩, rfl⟩ (by simpa using h)

theorem quietWx {P : Program} {w0 : World} {f : Nat} {args : Array Value} {n : Wx w0} {v : Value} (h : Calls P f args n.wr fun e w' => e = .returned v ∧ Turn (fun _ => False) n.wr w') : Calls P f args n.wr fun e w'' => e = .returned v ∧ ∃ m : Wx w0, w'' = m.wr :=
  h.mono fun _ w' ⟨he, t⟩ => ⟨he, ⟨w', n.t.trans t⟩, rfl⟩
theorem stillWx {P : Program} {w0 : World} {f : Nat} {args : Array Value} {n : Wx w0} {v : Value} (h : Calls P f args n.wr fun e w' => e = .returned v ∧ w' = n.wr) : Calls P f args n.wr fun e w'' => e = .returned v ∧ ∃ m : Wx w0, w'' = m.wr :=
  h.mono fun _ w' ⟨he, t⟩ => ⟨he, n, t⟩

set_option maxRecDepth 100000 in
set_option maxHeartbeats 1000000 in
theorem words_lck (w v : Nat) (hw : w < 18446744073709551616) (K : Bool) (hL : lck w = true) (hK : ded w = K) (W : World) :
    Calls Try.prog 4 #[.int .u64 (w : Int), .int .u64 (v : Int)] W fun e W' => e = .returned (.bool true) ∧ Below W.heap.size W W' := by
  have ho : opn w = false := by simp [opn, hL, hK]
  have e1 : ((w : Int) == (v : Int)) = decide (w = v) := by
    by_cases h : w = v
    · subst h; simp
    · have : ¬ (w : Int) = (v : Int) := by omega
      simp [h, this]
  have X1 := of_any w hw W
  have X2 : True := trivial
  have X3 := fun W => lock_any w hw W
  have X4 := fun W => rlock_any w hw W
  have X5 := fun W => version_any w hw W
  have X6 := fun W => locked_any w hw W
  have X7 := fun W => dead_any w hw W
  have X9 := fun W => valid_any w v hw W
  have Xa := fun W => unlock_any w hw W
  have Xb := fun W => runlock_any w hw W
  have Xc := fun W => kill_any w hw W
  have Xd := fun W => rkill_any w hw W
  generalize w / 4 = V at X1 X5
  have X8 := fun W => ropen_any (V : Int) true K W
  simp only [hL, hK, ho, Bool.false_eq_true, if_false, Bool.false_and, Bool.not_true] at X1 X3 X4 X6 X7 X8 X9
  replace X2 : ∀ W, Calls Try.prog 9 #[.int .u64 (w : Int)] W fun e W' => e = .returned (.tuple #[.int .u64 0, .bool false]) ∧ W' = W := fun W => by
    have := begin_any w hw W
    rw [ho] at this
    exact this
  generalize unl w = u at Xa Xb
  generalize kil w = k at Xc Xd
  replace X1 := Lib.hid X1
  replace X2 := Lib.hid X2
  replace X3 := Lib.hid X3
  replace X4 := Lib.hid X4
  replace X5 := Lib.hid X5
  replace X6 := Lib.hid X6
  replace X7 := Lib.hid X7
  replace X8 := Lib.hid X8
  replace X9 := Lib.hid X9
  replace Xa := Lib.hid Xa
  replace Xb := Lib.hid Xb
  replace Xc := Lib.hid Xc
  replace Xd := Lib.hid Xd
  clear hL hK ho
  go_enter Try.func4, Try.ntmps4
  go_wp2_with fail
  refine X1.out.mono ?_
  rintro _ w1 ⟨rfl, t1⟩
  have T1 := Lib.hid t1
  clear t1 X1
  go_wp2_with fail
  refine (X2.out _).mono ?_
  rintro _ q2 ⟨rfl, hq⟩
  have hq := hq.symm
  subst hq
  go_wp2_with fail
  refine (X3.out _).mono ?_
  rintro _ q3 ⟨rfl, hq⟩
  have hq := hq.symm
  subst hq
  go_wp2_with fail
  refine (X4.out _).mono ?_
  rintro _ w2 ⟨rfl, t2⟩
  have A2 := (At.new w1 (.cells #[.int .u64 (V : Int), .bool true, .bool K] 39)).turn t2 (fun h => h)
  have T2 := Lib.hid ((T1.out.alloc (.cells #[.int .u64 (V : Int), .bool true, .bool K] 39)).trans t2)
  clear t2 T1 X2 X3 X4
  have HA := Lib.hid A2
  clear A2
  generalize w1.heap.size = B at HA
  have c0 : ∀ n : Wx w2, n.wr.cell? ⟨B, 0, none⟩ = some (.int .u64 (V : Int)) := fun n => by simpa using (HA.out.turn n.t (fun h => h)).cell 0
  have c1 : ∀ n : Wx w2, n.wr.cell? ⟨B, 1, none⟩ = some (.bool true) := fun n => by simpa using (HA.out.turn n.t (fun h => h)).cell 1
  have c2 : ∀ n : Wx w2, n.wr.cell? ⟨B, 2, none⟩ = some (.bool K) := fun n => by simpa using (HA.out.turn n.t (fun h => h)).cell 2
  have Y5 := Lib.hid (fun n : Wx w2 => stillWx (X5.out n.wr))
  have Y6 := Lib.hid (fun n : Wx w2 => stillWx (X6.out n.wr))
  have Y7 := Lib.hid (fun n : Wx w2 => stillWx (X7.out n.wr))
  have Y8 := Lib.hid (fun n : Wx w2 => quietWx (X8.out n.wr))
  go_wp2_with fail
  refine wp_region_wx (w0 := w2) (by kernel_rfl) (by kernel_rfl) (Turn.refl _ _) ?_
  repeat (go_big_quiet_step (first
    | (go_at_call 21; with_reducible exact Y5.out _) | (go_at_call 22; with_reducible exact Y6.out _) | (go_at_call 23; with_reducible exact Y7.out _) | (go_at_call 24; with_reducible exact Y8.out _)))
  refine wpQuiet_nil ?_
  rintro _ ⟨n, rfl⟩
  have T3 := Lib.hid (T2.out.trans n.t)
  have H3 := Lib.hid (HA.out.turn n.t (fun h => h))
  generalize n.wr = w3 at T3 H3 ⊢
  clear n c0 c1 c2 Y5 Y6 Y7 Y8 HA T2
  have c0 : ∀ n : Wx w3, n.wr.cell? ⟨B, 0, none⟩ = some (.int .u64 (V : Int)) := fun n => by simpa using (H3.out.turn n.t (fun h => h)).cell 0
  have c1 : ∀ n : Wx w3, n.wr.cell? ⟨B, 1, none⟩ = some (.bool true) := fun n => by simpa using (H3.out.turn n.t (fun h => h)).cell 1
  have c2 : ∀ n : Wx w3, n.wr.cell? ⟨B, 2, none⟩ = some (.bool K) := fun n => by simpa using (H3.out.turn n.t (fun h => h)).cell 2
  have YA := Lib.hid (fun n : Wx w3 => quietWx (awake_any n.wr))
  have Y8 := Lib.hid (fun n : Wx w3 => quietWx (X8.out n.wr))
  have Y9 := Lib.hid (fun n : Wx w3 => stillWx (X9.out n.wr))
  have Ya := Lib.hid (fun n : Wx w3 => stillWx (Xa.out n.wr))
  have Yb := Lib.hid (fun n : Wx w3 => quietWx (Xb.out n.wr))
  have Yc := Lib.hid (fun n : Wx w3 => stillWx (Xc.out n.wr))
  have Yd := Lib.hid (fun n : Wx w3 => quietWx (Xd.out n.wr))
  go_wp2_with fail
  refine wp_region_wx (w0 := w3) (by kernel_rfl) (by kernel_rfl) (Turn.refl _ _) ?_
  repeat (go_big_quiet_step (first
    | (go_at_call 17; with_reducible exact YA.out _) | (go_at_call 24; with_reducible exact Y8.out _) | (go_at_call 11; with_reducible exact Y9.out _) | (go_at_call 12; with_reducible exact Ya.out _)
    | (go_at_call 25; with_reducible exact Yb.out _) | (go_at_call 13; with_reducible exact Yc.out _) | (go_at_call 26; with_reducible exact Yd.out _)))
  refine wpQuiet_nil ?_
  rintro _ ⟨n, rfl⟩
  go_wp2_with fail
  go_ret
  exact ⟨rfl, (T3.out.trans n.t).below (Nat.le_refl _) (fun _ _ h => h)⟩

set_option maxRecDepth 100000 in
set_option maxHeartbeats 1000000 in
theorem words_ded (w v : Nat) (hw : w < 18446744073709551616) (hL : lck w = false) (hK : ded w = true) (W : World) :
    Calls Try.prog 4 #[.int .u64 (w : Int), .int .u64 (v : Int)] W fun e W' => e = .returned (.bool true) ∧ Below W.heap.size W W' := by
  have ho : opn w = false := by simp [opn, hL, hK]
  have e1 : ((w : Int) == (v : Int)) = decide (w = v) := by
    by_cases h : w = v
    · subst h; simp
    · have : ¬ (w : Int) = (v : Int) := by omega
      simp [h, this]
  have X1 := of_any w hw W
  have X2 : True := trivial
  have X3 := fun W => lock_any w hw W
  have X4 := fun W => rlock_any w hw W
  have X5 := fun W => version_any w hw W
  have X6 := fun W => locked_any w hw W
  have X7 := fun W => dead_any w hw W
  have X9 := fun W => valid_any w v hw W
  have Xa := fun W => unlock_any w hw W
  have Xb := fun W => runlock_any w hw W
  have Xc := fun W => kill_any w hw W
  have Xd := fun W => rkill_any w hw W
  generalize w / 4 = V at X1 X5
  have X8 := fun W => ropen_any (V : Int) false true W
  simp only [hL, hK, ho, Bool.false_eq_true, if_false, Bool.true_and, Bool.false_and, Bool.not_true, Bool.not_false] at X1 X3 X4 X6 X7 X8 X9
  replace X2 : ∀ W, Calls Try.prog 9 #[.int .u64 (w : Int)] W fun e W' => e = .returned (.tuple #[.int .u64 0, .bool false]) ∧ W' = W := fun W => by
    have := begin_any w hw W
    rw [ho] at this
    exact this
  generalize unl w = u at Xa Xb
  generalize kil w = k at Xc Xd
  replace X1 := Lib.hid X1
  replace X2 := Lib.hid X2
  replace X3 := Lib.hid X3
  replace X4 := Lib.hid X4
  replace X5 := Lib.hid X5
  replace X6 := Lib.hid X6
  replace X7 := Lib.hid X7
  replace X8 := Lib.hid X8
  replace X9 := Lib.hid X9
  replace Xa := Lib.hid Xa
  replace Xb := Lib.hid Xb
  replace Xc := Lib.hid Xc
  replace Xd := Lib.hid Xd
  clear hL hK ho
  go_enter Try.func4, Try.ntmps4
  go_wp2_with fail
  refine X1.out.mono ?_
  rintro _ w1 ⟨rfl, t1⟩
  have T1 := Lib.hid t1
  clear t1 X1
  go_wp2_with fail
  refine (X2.out _).mono ?_
  rintro _ q2 ⟨rfl, hq⟩
  have hq := hq.symm
  subst hq
  go_wp2_with fail
  refine (X3.out _).mono ?_
  rintro _ q3 ⟨rfl, hq⟩
  have hq := hq.symm
  subst hq
  go_wp2_with fail
  refine (X4.out _).mono ?_
  rintro _ w2 ⟨rfl, t2⟩
  have A2 := (At.new w1 (.cells #[.int .u64 (V : Int), .bool false, .bool true] 39)).turn t2 (fun h => h)
  have T2 := Lib.hid ((T1.out.alloc (.cells #[.int .u64 (V : Int), .bool false, .bool true] 39)).trans t2)
  clear t2 T1 X2 X3 X4
  have HA := Lib.hid A2
  clear A2
  generalize w1.heap.size = B at HA
  have c0 : ∀ n : Wx w2, n.wr.cell? ⟨B, 0, none⟩ = some (.int .u64 (V : Int)) := fun n => by simpa using (HA.out.turn n.t (fun h => h)).cell 0
  have c1 : ∀ n : Wx w2, n.wr.cell? ⟨B, 1, none⟩ = some (.bool false) := fun n => by simpa using (HA.out.turn n.t (fun h => h)).cell 1
  have c2 : ∀ n : Wx w2, n.wr.cell? ⟨B, 2, none⟩ = some (.bool true) := fun n => by simpa using (HA.out.turn n.t (fun h => h)).cell 2
  have Y5 := Lib.hid (fun n : Wx w2 => stillWx (X5.out n.wr))
  have Y6 := Lib.hid (fun n : Wx w2 => stillWx (X6.out n.wr))
  have Y7 := Lib.hid (fun n : Wx w2 => stillWx (X7.out n.wr))
  have Y8 := Lib.hid (fun n : Wx w2 => quietWx (X8.out n.wr))
  go_wp2_with fail
  refine wp_region_wx (w0 := w2) (by kernel_rfl) (by kernel_rfl) (Turn.refl _ _) ?_
  repeat (go_big_quiet_step (first
    | (go_at_call 21; with_reducible exact Y5.out _) | (go_at_call 22; with_reducible exact Y6.out _) | (go_at_call 23; with_reducible exact Y7.out _) | (go_at_call 24; with_reducible exact Y8.out _)))
  refine wpQuiet_nil ?_
  rintro _ ⟨n, rfl⟩
  have T3 := Lib.hid (T2.out.trans n.t)
  have H3 := Lib.hid (HA.out.turn n.t (fun h => h))
  generalize n.wr = w3 at T3 H3 ⊢
  clear n c0 c1 c2 Y5 Y6 Y7 Y8 HA T2
  have c0 : ∀ n : Wx w3, n.wr.cell? ⟨B, 0, none⟩ = some (.int .u64 (V : Int)) := fun n => by simpa using (H3.out.turn n.t (fun h => h)).cell 0
  have c1 : ∀ n : Wx w3, n.wr.cell? ⟨B, 1, none⟩ = some (.bool false) := fun n => by simpa using (H3.out.turn n.t (fun h => h)).cell 1
  have c2 : ∀ n : Wx w3, n.wr.cell? ⟨B, 2, none⟩ = some (.bool true) := fun n => by simpa using (H3.out.turn n.t (fun h => h)).cell 2
  have YA := Lib.hid (fun n : Wx w3 => quietWx (awake_any n.wr))
  have Y8 := Lib.hid (fun n : Wx w3 => quietWx (X8.out n.wr))
  have Y9 := Lib.hid (fun n : Wx w3 => stillWx (X9.out n.wr))
  have Ya := Lib.hid (fun n : Wx w3 => stillWx (Xa.out n.wr))
  have Yb := Lib.hid (fun n : Wx w3 => quietWx (Xb.out n.wr))
  have Yc := Lib.hid (fun n : Wx w3 => stillWx (Xc.out n.wr))
  have Yd := Lib.hid (fun n : Wx w3 => quietWx (Xd.out n.wr))
  go_wp2_with fail
  refine wp_region_wx (w0 := w3) (by kernel_rfl) (by kernel_rfl) (Turn.refl _ _) ?_
  repeat (go_big_quiet_step (first
    | (go_at_call 17; with_reducible exact YA.out _) | (go_at_call 24; with_reducible exact Y8.out _) | (go_at_call 11; with_reducible exact Y9.out _) | (go_at_call 12; with_reducible exact Ya.out _)
    | (go_at_call 25; with_reducible exact Yb.out _) | (go_at_call 13; with_reducible exact Yc.out _) | (go_at_call 26; with_reducible exact Yd.out _)))
  refine wpQuiet_nil ?_
  rintro _ ⟨n, rfl⟩
  go_wp2_with fail
  go_ret
  exact ⟨rfl, (T3.out.trans n.t).below (Nat.le_refl _) (fun _ _ h => h)⟩

set_option maxRecDepth 100000 in
set_option maxHeartbeats 1000000 in
theorem words_opn (w v : Nat) (hw : w < 18446744073709551616) (hL : lck w = false) (hK : ded w = false) (W : World) :
    Calls Try.prog 4 #[.int .u64 (w : Int), .int .u64 (v : Int)] W fun e W' => e = .returned (.bool true) ∧ Below W.heap.size W W' := by
  have ho : opn w = true := by simp [opn, hL, hK]
  have e1 : ((w : Int) == (v : Int)) = decide (w = v) := by
    by_cases h : w = v
    · subst h; simp
    · have : ¬ (w : Int) = (v : Int) := by omega
      simp [h, this]
  have X1 := of_any w hw W
  have X2 : True := trivial
  have X3 := fun W => lock_any w hw W
  have X4 := fun W => rlock_any w hw W
  have X5 := fun W => version_any w hw W
  have X6 := fun W => locked_any w hw W
  have X7 := fun W => dead_any w hw W
  have X9 := fun W => valid_any w v hw W
  have Xa := fun W => unlock_any w hw W
  have Xb := fun W => runlock_any w hw W
  have Xc := fun W => kill_any w hw W
  have Xd := fun W => rkill_any w hw W
  generalize w / 4 = V at X1 X5
  have X8 := fun W => ropen_any (V : Int) false false W
  simp only [hL, hK, ho, if_true, Bool.true_and, Bool.not_false, Bool.and_true] at X1 X3 X4 X6 X7 X8 X9
  replace X2 : ∀ W, Calls Try.prog 9 #[.int .u64 (w : Int)] W fun e W' => e = .returned (.tuple #[.int .u64 (w : Int), .bool true]) ∧ W' = W := fun W => by
    have := begin_any w hw W
    rw [ho] at this
    exact this
  generalize unl w = u at Xa Xb
  generalize kil w = k at Xc Xd
  generalize w + 1 = m at X3 X4
  replace X1 := Lib.hid X1
  replace X2 := Lib.hid X2
  replace X3 := Lib.hid X3
  replace X4 := Lib.hid X4
  replace X5 := Lib.hid X5
  replace X6 := Lib.hid X6
  replace X7 := Lib.hid X7
  replace X8 := Lib.hid X8
  replace X9 := Lib.hid X9
  replace Xa := Lib.hid Xa
  replace Xb := Lib.hid Xb
  replace Xc := Lib.hid Xc
  replace Xd := Lib.hid Xd
  clear hL hK ho
  go_enter Try.func4, Try.ntmps4
  go_wp2_with fail
  refine X1.out.mono ?_
  rintro _ w1 ⟨rfl, t1⟩
  have T1 := Lib.hid t1
  clear t1 X1
  go_wp2_with fail
  refine (X2.out _).mono ?_
  rintro _ q2 ⟨rfl, hq⟩
  have hq := hq.symm
  subst hq
  go_wp2_with fail
  refine (X3.out _).mono ?_
  rintro _ q3 ⟨rfl, hq⟩
  have hq := hq.symm
  subst hq
  go_wp2_with fail
  refine (X4.out _).mono ?_
  rintro _ w2 ⟨rfl, t2⟩
  have A2 := (At.new w1 (.cells #[.int .u64 (V : Int), .bool false, .bool false] 39)).turn t2 (fun h => h)
  have T2 := Lib.hid ((T1.out.alloc (.cells #[.int .u64 (V : Int), .bool false, .bool false] 39)).trans t2)
  clear t2 T1 X2 X3 X4
  have HA := Lib.hid A2
  clear A2
  generalize w1.heap.size = B at HA
  have c0 : ∀ n : Wx w2, n.wr.cell? ⟨B, 0, none⟩ = some (.int .u64 (V : Int)) := fun n => by simpa using (HA.out.turn n.t (fun h => h)).cell 0
  have c1 : ∀ n : Wx w2, n.wr.cell? ⟨B, 1, none⟩ = some (.bool false) := fun n => by simpa using (HA.out.turn n.t (fun h => h)).cell 1
  have c2 : ∀ n : Wx w2, n.wr.cell? ⟨B, 2, none⟩ = some (.bool false) := fun n => by simpa using (HA.out.turn n.t (fun h => h)).cell 2
  have Y5 := Lib.hid (fun n : Wx w2 => stillWx (X5.out n.wr))
  have Y6 := Lib.hid (fun n : Wx w2 => stillWx (X6.out n.wr))
  have Y7 := Lib.hid (fun n : Wx w2 => stillWx (X7.out n.wr))
  have Y8 := Lib.hid (fun n : Wx w2 => quietWx (X8.out n.wr))
  go_wp2_with fail
  refine wp_region_wx (w0 := w2) (by kernel_rfl) (by kernel_rfl) (Turn.refl _ _) ?_
  repeat (go_big_quiet_step (first
    | (go_at_call 21; with_reducible exact Y5.out _) | (go_at_call 22; with_reducible exact Y6.out _) | (go_at_call 23; with_reducible exact Y7.out _) | (go_at_call 24; with_reducible exact Y8.out _)))
  refine wpQuiet_nil ?_
  rintro _ ⟨n, rfl⟩
  have T3 := Lib.hid (T2.out.trans n.t)
  have H3 := Lib.hid (HA.out.turn n.t (fun h => h))
  generalize n.wr = w3 at T3 H3 ⊢
  clear n c0 c1 c2 Y5 Y6 Y7 Y8 HA T2
  have c0 : ∀ n : Wx w3, n.wr.cell? ⟨B, 0, none⟩ = some (.int .u64 (V : Int)) := fun n => by simpa using (H3.out.turn n.t (fun h => h)).cell 0
  have c1 : ∀ n : Wx w3, n.wr.cell? ⟨B, 1, none⟩ = some (.bool false) := fun n => by simpa using (H3.out.turn n.t (fun h => h)).cell 1
  have c2 : ∀ n : Wx w3, n.wr.cell? ⟨B, 2, none⟩ = some (.bool false) := fun n => by simpa using (H3.out.turn n.t (fun h => h)).cell 2
  have YA := Lib.hid (fun n : Wx w3 => quietWx (awake_any n.wr))
  have Y8 := Lib.hid (fun n : Wx w3 => quietWx (X8.out n.wr))
  have Y9 := Lib.hid (fun n : Wx w3 => stillWx (X9.out n.wr))
  have Ya := Lib.hid (fun n : Wx w3 => stillWx (Xa.out n.wr))
  have Yb := Lib.hid (fun n : Wx w3 => quietWx (Xb.out n.wr))
  have Yc := Lib.hid (fun n : Wx w3 => stillWx (Xc.out n.wr))
  have Yd := Lib.hid (fun n : Wx w3 => quietWx (Xd.out n.wr))
  go_wp2_with fail
  refine wp_region_wx (w0 := w3) (by kernel_rfl) (by kernel_rfl) (Turn.refl _ _) ?_
  repeat (go_big_quiet_step (first
    | (go_at_call 17; with_reducible exact YA.out _) | (go_at_call 24; with_reducible exact Y8.out _) | (go_at_call 11; with_reducible exact Y9.out _) | (go_at_call 12; with_reducible exact Ya.out _)
    | (go_at_call 25; with_reducible exact Yb.out _) | (go_at_call 13; with_reducible exact Yc.out _) | (go_at_call 26; with_reducible exact Yd.out _)))
  refine wpQuiet_nil ?_
  rintro _ ⟨n, rfl⟩
  go_wp2_with fail
  go_ret
  exact ⟨rfl, (T3.out.trans n.t).below (Nat.le_refl _) (fun _ _ h => h)⟩

theorem words_any (w v : Nat) (hw : w < 18446744073709551616) (W : World) :
    Calls Try.prog 4 #[.int .u64 (w : Int), .int .u64 (v : Int)] W fun e W' => e = .returned (.bool true) ∧ Below W.heap.size W W' := by
  cases hL : lck w with
  | true => exact words_lck w v hw (ded w) hL rfl W
  | false => cases hK : ded w with
    | true => exact words_ded w v hw hL hK W
    | false => exact words_opn w v hw hL hK W
end Go.Proofs.Ytildhokanfmabaa
