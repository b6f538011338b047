/-
  What the document's own functions on words come to: all that they turn is new.
-/
import Derived.Test.YtildhokanfmabaaWWords
namespace Go.Proofs.Ytildhokanfmabaa
open Go.RowKit
set_option linter.unusedVariables false

theorem lck_eq (w : Nat) : ((w : Int) % 2 == 1) = lck w := by
  rcases Nat.mod_two_eq_zero_or_one w with h | h
  · have e : (w : Int) % 2 = 0 := by omega
    simp [lck, h, e]
  · have e : (w : Int) % 2 = 1 := by omega
    simp [lck, h, e]
theorem ded_eq (w : Nat) : ((w : Int) / 2 % 2 == 1) = ded w := by
  rcases Nat.mod_two_eq_zero_or_one (w / 2) with h | h
  · have e : (w : Int) / 2 % 2 = 0 := by omega
    simp [ded, h, e]
  · have e : (w : Int) / 2 % 2 = 1 := by omega
    simp [ded, h, e]

theorem of_any (w : Nat) (hw : w < 18446744073709551616) (W : World) : Calls Try.prog 19 #[.int .u64 w] W fun e W' => e = .returned (.agg #[.int .u64 ((w / 4 : Nat) : Int), .bool (lck w), .bool (ded w)]) ∧ Turn (fun _ => False) W W' := by
  have a1 := lck_eq w
  have a2 := ded_eq w
  go_enter Try.func19, Try.ntmps19
  go_wp2
  exact bodyPost_ret (v := .agg #[.int .u64 ((w / 4 : Nat) : Int), .bool (lck w), .bool (ded w)]) (by simp [results, Try.results19, go_sem]) rfl ⟨rfl, (Turn.refl (fun _ => False) W).alloc _⟩

theorem ropen_any (V : Int) (L K : Bool) (W : World) : Calls Try.prog 24 #[.agg #[.int .u64 V, .bool L, .bool K]] W fun e W' => e = .returned (.bool (!L && !K)) ∧ Turn (fun _ => False) W W' := by
  cases L <;> (go_enter Try.func24, Try.ntmps24; go_wp2; go_ret; exact ⟨rfl, (Turn.refl _ W).alloc _⟩)

def putW (V : Nat) (L K : Bool) : Nat := V % 4611686018427387904 * 4 + (if L then 1 else 0) + (if K then 2 else 0)

theorem rput_any (V : Nat) (hV : V < 18446744073709551616) (L K : Bool) (W : World) : Calls Try.prog 35 #[.agg #[.int .u64 (V : Int), .bool L, .bool K]] W fun e W' => e = .returned (.int .u64 (putW V L K : Nat)) ∧ Turn (fun _ => False) W W' := by
  have e1 : IntKind.u64.wrap ((V : Int) % 4611686018427387904 * 4) = ((V % 4611686018427387904 * 4 : Nat) : Int) := by rw [IntKind.wrap_u64]; omega
  have e2 : IntKind.u64.wrap (((V % 4611686018427387904 * 4 : Nat) : Int) + 1) = ((V % 4611686018427387904 * 4 + 1 : Nat) : Int) := by rw [IntKind.wrap_u64]; omega
  have e3 : IntKind.u64.wrap (((V % 4611686018427387904 * 4 : Nat) : Int) + 2) = ((V % 4611686018427387904 * 4 + 2 : Nat) : Int) := by rw [IntKind.wrap_u64]; omega
  have e4 : IntKind.u64.wrap (((V % 4611686018427387904 * 4 + 1 : Nat) : Int) + 2) = ((V % 4611686018427387904 * 4 + 1 + 2 : Nat) : Int) := by rw [IntKind.wrap_u64]; omega
  cases L <;> cases K <;> simp only [putW, if_true, if_false, Bool.false_eq_true, Nat.add_zero]
  all_goals (go_enter Try.func35, Try.ntmps35; go_wp2; go_ret; refine ⟨?_, (Turn.refl _ W).alloc _⟩)
  all_goals simp
theorem rlock_any (w : Nat) (hw : w < 18446744073709551616) (W : World) : Calls Try.prog 20 #[.int .u64 w] W fun e W' => e = .returned (.tuple #[.int .u64 ((if opn w then w + 1 else w : Nat) : Int), .bool (opn w)]) ∧ Turn (fun _ => False) W W' := by
  have X1 := of_any w hw W
  have hres : opn w = true → putW (w / 4) true false = w + 1 := fun h => by
    have := opn_mod.1 h
    simp only [putW, if_true, Bool.false_eq_true, if_false]; omega
  have hV : w / 4 < 18446744073709551616 := by omega
  generalize w / 4 = V at X1 hres hV
  have X1 := Lib.hid X1
  have hop : opn w = (!lck w && !ded w) := rfl
  generalize hL : lck w = L at X1 hop
  generalize hK : ded w = K at X1 hop
  have X2 := Lib.hid (fun W => ropen_any (V : Int) L K W)
  rw [← hop] at X2
  have R := Lib.hid (fun W => rput_any V hV true false W)
  have RR := Lib.hid hres
  cases h : opn w <;> rw [h] at X2 hop
  · clear hL hK hop hres h R RR
    go_enter Try.func20, Try.ntmps20
    go_wp2_with fail
    refine X1.out.mono ?_
    rintro _ w1 ⟨rfl, t1⟩
    have T1 := Lib.hid t1
    clear t1 X1
    go_wp2_with fail
    refine (X2.out _).mono ?_
    rintro _ w2 ⟨rfl, t2⟩
    have T2 := Lib.hid t2
    clear t2 X2
    go_wp2_with fail
    go_ret2
    exact ⟨rfl, (T1.out.alloc _).trans T2.out⟩
  · cases L
    case true => simp at hop
    cases K
    case true => simp at hop
    rw [RR.out h] at R
    clear hL hK hop hres h RR
    go_enter Try.func20, Try.ntmps20
    go_wp2_with fail
    refine X1.out.mono ?_
    rintro _ w1 ⟨rfl, t1⟩
    have T1 := Lib.hid t1
    clear t1 X1
    go_wp2_with fail
    refine (X2.out _).mono ?_
    rintro _ w2 ⟨rfl, t2⟩
    have A2 := (At.new w1 (.cells #[.int .u64 (V : Int), .bool false, .bool false] 39)).turn t2 (fun h => h)
    have c0 := A2.cell 0
    have c1 := A2.cell 1
    have c2 := A2.cell 2
    simp at c0 c1 c2
    have z1 := A2.thawed 1
    have s1 := T1.out.size
    have T2 := Lib.hid t2
    clear t2 X2 A2
    generalize w1.heap.size = B at c0 c1 c2 z1 s1 ⊢
    go_wp2_with fail
    refine (R.out _).mono ?_
    rintro _ w3 ⟨rfl, t3⟩
    have T3 := Lib.hid t3
    clear t3 R
    go_wp2_with fail
    go_ret2
    exact ⟨rfl, (((T1.out.alloc _).trans T2.out).setCell (p := ⟨B, 1, none⟩) (Or.inr s1) _).trans T3.out⟩

theorem runlock_any (w : Nat) (hw : w < 18446744073709551616) (W : World) : Calls Try.prog 25 #[.int .u64 w] W fun e W' => e = .returned (.int .u64 (unl w : Nat)) ∧ Turn (fun _ => False) W W' := by
  have X1 := of_any w hw W
  obtain ⟨V, hV⟩ : ∃ V, V = w / 4 := ⟨_, rfl⟩
  obtain ⟨V1, hV1⟩ : ∃ V1, V1 = V + 1 := ⟨_, rfl⟩
  have e1 : IntKind.u64.wrap ((V : Int) + 1) = (V1 : Int) := by rw [IntKind.wrap_u64]; omega
  rcases Nat.mod_two_eq_zero_or_one w with h | h
  · rw [lck_f h, ← hV] at X1
    have hres : putW V false (ded w) = unl w := by
      rw [show unl w = w by simp [unl, h]]
      simp only [putW, ded, Bool.false_eq_true, if_false, decide_eq_true_eq]; split <;> omega
    have R := fun W => rput_any V (by omega) false (ded w) W
    rw [hres] at R
    generalize ded w = K at X1 R
    generalize unl w = u at R ⊢
    have X1 := Lib.hid X1
    have R := Lib.hid R
    clear hV hV1 e1 hres h
    go_enter Try.func25, Try.ntmps25
    go_wp2_with fail
    refine X1.out.mono ?_
    rintro _ w1 ⟨rfl, t1⟩
    have T1 := Lib.hid t1
    clear t1 X1
    go_wp2_with fail
    refine (R.out _).mono ?_
    rintro _ w3 ⟨rfl, t3⟩
    have T3 := Lib.hid t3
    clear t3 R
    go_wp2_with fail
    go_ret
    exact ⟨rfl, (T1.out.alloc _).trans T3.out⟩
  · rw [lck_t h, ← hV] at X1
    have hres : putW V1 false (ded w) = unl w := by
      simp only [putW, unl, ded, Bool.false_eq_true, if_false, decide_eq_true_eq]; split <;> omega
    have R := fun W => rput_any V1 (by omega) false (ded w) W
    rw [hres] at R
    generalize ded w = K at X1 R
    generalize unl w = u at R ⊢
    have X1 := Lib.hid X1
    have R := Lib.hid R
    clear hV hV1 hres h
    go_enter Try.func25, Try.ntmps25
    go_wp2_with fail
    refine X1.out.mono ?_
    rintro _ w1 ⟨rfl, t1⟩
    have T1 := Lib.hid t1
    clear t1 X1
    go_wp2_with fail
    refine (R.out _).mono ?_
    rintro _ w3 ⟨rfl, t3⟩
    have T3 := Lib.hid t3
    clear t3 R
    go_wp2_with fail
    go_ret
    exact ⟨rfl, (T1.out.alloc _).trans T3.out⟩

theorem rkill_any (w : Nat) (hw : w < 18446744073709551616) (W : World) : Calls Try.prog 26 #[.int .u64 w] W fun e W' => e = .returned (.int .u64 (kil w : Nat)) ∧ Turn (fun _ => False) W W' := by
  have X1 := of_any w hw W
  obtain ⟨V, hV⟩ : ∃ V, V = w / 4 := ⟨_, rfl⟩
  obtain ⟨V1, hV1⟩ : ∃ V1, V1 = V + 1 := ⟨_, rfl⟩
  have e1 : IntKind.u64.wrap ((V : Int) + 1) = (V1 : Int) := by rw [IntKind.wrap_u64]; omega
  rcases Nat.mod_two_eq_zero_or_one (w / 2) with h | h
  · rw [ded_f h, ← hV] at X1
    have hres : putW V1 false true = kil w := by
      rw [show kil w = (w - w % 2 + 4) % 18446744073709551616 + 2 by simp [kil, h]]
      simp only [putW, Bool.false_eq_true, if_false, if_true]; omega
    have R := fun W => rput_any V1 (by omega) false true W
    rw [hres] at R
    generalize lck w = L at X1
    generalize kil w = u at R ⊢
    have X1 := Lib.hid X1
    have R := Lib.hid R
    clear hV hV1 hres h
    go_enter Try.func26, Try.ntmps26
    go_wp2_with fail
    refine X1.out.mono ?_
    rintro _ w1 ⟨rfl, t1⟩
    have T1 := Lib.hid t1
    clear t1 X1
    go_wp2_with fail
    refine (R.out _).mono ?_
    rintro _ w3 ⟨rfl, t3⟩
    have T3 := Lib.hid t3
    clear t3 R
    go_wp2_with fail
    go_ret
    exact ⟨rfl, (T1.out.alloc _).trans T3.out⟩
  · rw [ded_t h, ← hV] at X1
    have hres : putW V false true = kil w := by
      simp only [putW, kil, Bool.false_eq_true, if_false, if_true, h]; omega
    have R := fun W => rput_any V (by omega) false true W
    rw [hres] at R
    generalize lck w = L at X1
    generalize kil w = u at R ⊢
    have X1 := Lib.hid X1
    have R := Lib.hid R
    clear hV hV1 e1 hres h
    go_enter Try.func26, Try.ntmps26
    go_wp2_with fail
    refine X1.out.mono ?_
    rintro _ w1 ⟨rfl, t1⟩
    have T1 := Lib.hid t1
    clear t1 X1
    go_wp2_with fail
    refine (R.out _).mono ?_
    rintro _ w3 ⟨rfl, t3⟩
    have T3 := Lib.hid t3
    clear t3 R
    go_wp2_with fail
    go_ret
    exact ⟨rfl, (T1.out.alloc _).trans T3.out⟩
end Go.Proofs.Ytildhokanfmabaa
