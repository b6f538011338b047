/-
  What an epoch's functions come to: New, number, Waiting, Pin.
-/
import Derived.Test.YthohhehelnkpgaaEpm
import Derived.Deep.RegionWith
import Derived.IntWalk
import Derived.WalkSpells
import Derived.Laws.Tables
namespace Go.Proofs.Ythohhehelnkpgaa
open Go.RowKit Go.Maps Go.IntWalk Go.Lib
set_option linter.unusedVariables false

section
variable {Z : Nat} {w w' : World} {eb : Nat} {m : Option Nat} {v : Value} {E : Ab} {t : Int}

def Ab.start : Ab := ⟨[], [], 0, false⟩
theorem Ab.start_wf : Ab.start.wf := { up := List.Pairwise.nil, nums := fun p hp => by simp [Ab.start] at hp, ints := fun p hp => by simp [Ab.start] at hp, small := ⟨Nat.zero_le _, Nat.zero_le _⟩ }

theorem new_any (w : World) (hZ : Z ≤ w.heap.size) : Calls Try.prog 8 #[] w fun e w' => e = .returned (.pointer (some ⟨w.heap.size, 0, none⟩)) ∧ Ep Z w' w.heap.size Ab.start ∧ Turn (fun _ => False) w w' := by
  go_enter Try.func8, Try.ntmps8
  go_wp2
  go_ret
  exact ⟨rfl, ⟨none, .slice none 0 0, ⟨At.new w _, Or.inl ⟨rfl, rfl⟩, Or.inl ⟨rfl, rfl⟩, Ab.start_wf, hZ⟩⟩, (Turn.refl _ w).alloc _⟩

theorem waiting_nil (w : World) : Calls Try.prog 16 #[.pointer none] w fun e w' => e = .returned (.int .i64 0) ∧ w' = w := by
  go_enter Try.func16, Try.ntmps16
  go_wp2
  go_ret
  exact ⟨rfl, rfl⟩
theorem waiting_any (h : Ep Z w eb E) : Calls Try.prog 16 #[.pointer (some ⟨eb, 0, none⟩)] w fun e w' => e = .returned (.int .i64 (E.fs.length : Int)) ∧ w' = w := by
  obtain ⟨m, v, h⟩ := h
  obtain ⟨A, cap, rfl⟩ := h.form
  obtain ⟨_, c1, _⟩ := h.cells
  clear h
  go_enter Try.func16, Try.ntmps16
  go_wp2_with fail
  go_ret
  exact ⟨rfl, rfl⟩

theorem number_any (h : Ep Z w eb E) : Calls Try.prog 27 #[.pointer (some ⟨eb, 0, none⟩)] w fun e w' => e = .returned (.int .i64 (E.len : Int)) ∧ ∃ n, w' = w.drewN n := by
  obtain ⟨m, v, h⟩ := h
  obtain ⟨A, cap, rfl⟩ := h.form
  obtain ⟨_, c1, c2, _⟩ := h.cells
  have hs := h.wf.small.2
  have he : wrap64 ((E.gone : Int) + (E.fs.length : Int)) = (E.len : Int) := by
    unfold Ab.len at hs ⊢
    rw [wrap64_in _ (by omega)]
    omega
  clear h
  go_enter Try.func27, Try.ntmps27
  go_wp2_with fail
  go_region
  go_wp2_with fail
  go_ret
  rw [he]
  exact ⟨rfl, _, rfl⟩

theorem pin_nil (t : Int) (w : World) : Calls Try.prog 12 #[.pointer none, .int .i64 t] w fun e w' => e = .returned (.bool false) ∧ w' = w := by
  go_enter Try.func12, Try.ntmps12
  go_wp2
  go_ret
  exact ⟨rfl, rfl⟩

theorem Pm.look (h : Pm Z w m E.P) (t : Int) (h1 : -9223372036854775808 ≤ t) (h2 : t ≤ 9223372036854775807) : (Instr.lookup 49 (.map m) (.int .i64 t) true).run Try.prog w = .ok (.tuple #[(pv E.P t).getD (.int .i64 0), .bool (Ythohhehelnkpgaa.look E.P t).isSome]) w := by
  rcases h with ⟨rfl, hP⟩ | ⟨b, rfl, _, hb⟩
  · rw [hP, Maps.look_nil true law3 Try.underlying49 (z := .int .i64 0) (by rfl) (keyOf_int_mk Try.underlying3 (wf64 h1 h2))]
    rfl
  · rw [hb.look law3 Try.underlying3 Try.underlying49 (z := .int .i64 0) (by rfl) (wf64 h1 h2)]
    unfold pv
    cases Ythohhehelnkpgaa.look E.P t <;> rfl

theorem pin_no (h : Ep Z w eb E) (h1 : -9223372036854775808 ≤ t) (h2 : t ≤ 9223372036854775807) (hl : (look E.P t).isSome = true) : Calls Try.prog 12 #[.pointer (some ⟨eb, 0, none⟩), .int .i64 t] w fun e w' => e = .returned (.bool false) ∧ w' = w := by
  obtain ⟨m, v, h⟩ := h
  obtain ⟨c0, _⟩ := h.cells
  have hk := h.pm.look t h1 h2
  rw [hl] at hk
  clear h
  go_enter Try.func12, Try.ntmps12
  go_wp2_with fail
  go_ret
  exact ⟨rfl, rfl⟩

theorem cnt_lt (h : E.wf) (k : Nat) : cntk E.P k ≤ 100000 := Nat.le_trans cnt_le h.small.1
/-- What a Pin leaves: the map has the task, the count is one more. -/
theorem EpAt.pinned {b : Nat} {w1 w4 : World} (h : EpAt Z w1 eb (some b) v E) (h1 : -9223372036854775808 ≤ t) (h2 : t ≤ 9223372036854775807) (hl : look E.P t = none) (hP : E.P.length < 100000)
    (hI : IMap Try.prog 3 w4 b (Ythohhehelnkpgaa.put (pv E.P) t (.int .i64 (E.len : Int))) (E.P.length + 1)) (ht : Turn (· = b) w1 w4) (hb : eb ≠ b) (hz : Z ≤ b) :
    EpAt Z (w4.setCell ⟨eb, 3, none⟩ (.int .i64 ((cntk E.P E.len : Int) + 1))) eb (some b) v (E.pin t) := by
  have hp : E.pin t = { E with P := ins t E.len E.P } := by unfold Ab.pin; rw [hl]; rfl
  have hwf := h.wf.pin h1 h2 hP
  rw [hp] at hwf ⊢
  have tz := set_turn w4 eb 3 (.int .i64 ((cntk E.P E.len : Int) + 1))
  have hc : (cntk (ins t E.len E.P) E.len : Int) = (cntk E.P E.len : Int) + 1 := by rw [cnt_ins, if_pos rfl]; omega
  have hn : ({ E with P := ins t E.len E.P } : Ab).len = E.len := rfl
  refine ⟨?_, Or.inr ⟨b, rfl, hz, ?_⟩, ?_, hwf, h.base⟩
  · rw [hn, hc]
    exact (h.at_.turn ht hb).set 3 _
  · have := hI.turn tz (fun e => hb e.symm)
    rw [ins_len]
    refine IMap.congr ?_ this
    intro i
    unfold pv
    rw [look_ins h.wf.up hl]
    unfold put
    by_cases hi : i = t <;> simp [hi]
  · have h4 : Que Z (w4.setCell ⟨eb, 3, none⟩ (.int .i64 ((cntk E.P E.len : Int) + 1))) v (wts E.P E.gone E.fs) := by
      refine (h.que.turn ht ?_).turn tz ?_
      · intro i c f hi e
        subst e
        rcases h.pm with ⟨h0, _⟩ | ⟨b', hb', _, hI'⟩
        · cases h0
        · obtain ⟨es, cl, ho⟩ := hI'.obj
          cases hb'
          cases ho.eq hi
      · intro i c f hi e
        subst e
        exact hi.ne (h.at_.turn ht hb) (by intro e; injection e with _ e; cases e) rfl
    rwa [show wts ({ E with P := ins t E.len E.P } : Ab).P ({ E with P := ins t E.len E.P } : Ab).gone ({ E with P := ins t E.len E.P } : Ab).fs = wts E.P E.gone E.fs from wts_same _ _ (fun j h1 h2 => by
      rw [cnt_ins, if_neg (by have h3 : j < E.gone + E.fs.length := h2; unfold Ab.len; omega)]; rfl)]

theorem pin_turn {b n : Nat} {f : Int → Option Value} {w1 w4 : World} (h : EpAt Z w1 eb (some b) v E) (hI : IMap Try.prog 3 w1 b f n) (ht : Turn (· = b) w1 w4) (hz : Z ≤ b) (u : Value) : Tn Eo Z w1 (w4.setCell ⟨eb, 3, none⟩ u) := by
  have tz := set_turn w4 eb 3 u
  obtain ⟨es, cl, ho⟩ := hI.obj
  have t1 : Tn Eo Z w1 w4 := Turn.mono ht fun i _ e => by subst e; exact ⟨hz, Or.inl ⟨es, cl, ho⟩⟩
  have hb : eb ≠ b := fun e => hI.ne h.at_ e.symm
  exact Turn.then t1 tz fun i _ e => by subst e; exact ⟨h.base, Or.inr ⟨_, 52, _, Or.inl rfl, h.at_⟩⟩

set_option maxRecDepth 100000 in
theorem pin_some {b : Nat} (h : EpAt Z w eb (some b) v E) (h1 : -9223372036854775808 ≤ t) (h2 : t ≤ 9223372036854775807) (hl : look E.P t = none) (hP : E.P.length < 100000) :
    Calls Try.prog 12 #[.pointer (some ⟨eb, 0, none⟩), .int .i64 t] w fun e w' => e = .returned (.bool true) ∧ Ep Z w' eb (E.pin t) ∧ Tn Eo Z w w' := by
  have hI : IMap Try.prog 3 w b (pv E.P) E.P.length := by
    rcases h.pm with ⟨h0, _⟩ | ⟨b', hb', _, hI'⟩
    · cases h0
    · cases hb'; exact hI'
  have hz0 : Z ≤ b := by
    rcases h.pm with ⟨h0, _⟩ | ⟨b', hb', hz, hI'⟩
    · cases h0
    · cases hb'; exact hz
  have hb : eb ≠ b := fun e => hI.ne h.at_ e.symm
  obtain ⟨c0, _⟩ := h.cells
  have hk := h.pm.look t h1 h2
  rw [hl] at hk
  have NB : Hid (∀ n, Calls Try.prog 27 #[.pointer (some ⟨eb, 0, none⟩)] (w.drewN n) fun e w' => e = .returned (.int .i64 (E.len : Int)) ∧ ∃ k, w' = (w.drewN n).drewN k) := Lib.hid fun n => number_any (Ep.same ⟨some b, v, h⟩ ((Turn.refl _ w).drewN n))
  obtain ⟨W4, hW4⟩ := Classical.axiomOfChoice fun n : Nat => (hI.turn ((Turn.refl (fun _ => False) w).drewN n) (fun h => h)).store (v := .int .i64 (E.len : Int)) law3 Try.underlying3 Try.underlying49 (by omega) (wf64 h1 h2)
  have hz : (pv E.P t).isSome = false := by unfold pv; rw [hl]; rfl
  simp only [hz, Bool.false_eq_true, if_false] at hW4
  have hrun := fun n => (hW4 n).1
  have HE := Lib.hid fun n => (hW4 n).2
  have a4 := fun n => (h.at_.turn ((Turn.refl (fun _ => False) w).drewN n) (fun h => h)).turn (hW4 n).2.2 hb
  have c3 := fun n => (a4 n).cell 3
  have z3 := fun n => (a4 n).thawed 3
  have HH := Lib.hid (And.intro h hI)
  have cw := cnt_lt h.wf E.len
  generalize hC : cntk E.P E.len = C at cw c3
  simp at c3
  have qT : ∀ (w : World) (r : Option Nat), (binOp .eql 49 (.map r) (.map none)).run Try.prog w = .ok (.bool r.isNone) w := fun w r => run_eql_map_nil w _ _ _ r Try.underlying49
  clear h hI hW4 a4
  replace hC := Lib.hid hC
  go_enter Try.func12, Try.ntmps12
  go_wp2_with fail
  go_region_with (go_at_call 27; refine (NB.out _).mono ?_; rintro e w3 ⟨rfl, n3, rfl⟩)
  all_goals
    go_wp2_with fail
    go_ret
    obtain rfl := hC.out
    refine ⟨rfl, ⟨some b, v, HH.out.1.pinned h1 h2 hl hP (HE.out _).1 (((Turn.refl _ w).drewN _).then (HE.out _).2 (fun i _ h => h)) hb hz0⟩, ?_⟩
    exact pin_turn HH.out.1 HH.out.2 (((Turn.refl _ w).drewN _).then (HE.out _).2 (fun i _ h => h)) hz0 _

set_option maxRecDepth 100000 in
theorem pin_none (h : EpAt Z w eb none v E) (h1 : -9223372036854775808 ≤ t) (h2 : t ≤ 9223372036854775807) (hl : look E.P t = none) (hP : E.P.length < 100000) :
    Calls Try.prog 12 #[.pointer (some ⟨eb, 0, none⟩), .int .i64 t] w fun e w' => e = .returned (.bool true) ∧ Ep Z w' eb (E.pin t) ∧ Tn Eo Z w w' := by
  have hk := h.pm.look t h1 h2
  rw [hl] at hk
  obtain ⟨c0, _⟩ := h.cells
  have z0 := h.thaw 0
  have le := h.lt
  have qT : ∀ (w : World) (r : Option Nat), (binOp .eql 49 (.map r) (.map none)).run Try.prog w = .ok (.bool r.isNone) w := fun w r => run_eql_map_nil w _ _ _ r Try.underlying49
  have hPe : E.P = [] := by
    rcases h.pm with ⟨_, h0⟩ | ⟨b', hb', _, _⟩
    · exact h0
    · cases hb'
  have hm : EpAt Z ((w.setCell ⟨eb, 0, none⟩ (.map (some w.heap.size))).alloc (.map #[] 0)) eb (some w.heap.size) v E ∧ IMap Try.prog 3 ((w.setCell ⟨eb, 0, none⟩ (.map (some w.heap.size))).alloc (.map #[] 0)) w.heap.size (pv E.P) E.P.length ∧ Tn Eo Z w ((w.setCell ⟨eb, 0, none⟩ (.map (some w.heap.size))).alloc (.map #[] 0)) := by
    have hzs : Z ≤ w.heap.size := Nat.le_trans h.base (Nat.le_of_lt le)
    obtain ⟨s1, s2, s3⟩ := h.set 0 (.map (some w.heap.size)) rfl
    have ta := (Turn.refl (fun _ => False) (w.setCell ⟨eb, 0, none⟩ (.map (some w.heap.size)))).alloc (.map #[] 0)
    have hI : IMap Try.prog 3 ((w.setCell ⟨eb, 0, none⟩ (.map (some w.heap.size))).alloc (.map #[] 0)) w.heap.size (pv E.P) E.P.length := by
      rw [hPe, show pv [] = (fun _ => none) from rfl]
      have := IMap.made Try.prog 3 (w.setCell ⟨eb, 0, none⟩ (.map (some w.heap.size)))
      rw [show (w.setCell ⟨eb, 0, none⟩ (.map (some w.heap.size))).heap.size = w.heap.size by simp [World.setCell]] at this
      exact this
    exact ⟨⟨s1.turn ta (fun h => h), Or.inr ⟨_, rfl, hzs, hI⟩, s3.turn ta (fun _ _ _ _ h => h), h.wf, h.base⟩, hI, (Tn.set h.at_ (Or.inl rfl) h.base 0 _).trans (Tn.of_same ta)⟩
  have HM := Lib.hid hm
  have hmm := @run_makeMap Try.prog
  clear hm h hPe
  go_enter Try.func12, Try.ntmps12
  go_wp2_with fail
  generalize (w.setCell ⟨eb, 0, none⟩ (.map (some w.heap.size))).alloc (.map #[] 0) = w1 at HM ⊢
  have hz0 : Z ≤ w.heap.size := Nat.le_trans HM.out.1.base (Nat.le_of_lt le)
  generalize w.heap.size = b at HM le hz0 ⊢
  obtain ⟨h, hI, hT⟩ := HM.out
  have hb : eb ≠ b := fun e => hI.ne h.at_ e.symm
  have c01 := h.cells.1
  have NB : Hid (∀ n, Calls Try.prog 27 #[.pointer (some ⟨eb, 0, none⟩)] (w1.drewN n) fun e w' => e = .returned (.int .i64 (E.len : Int)) ∧ ∃ k, w' = (w1.drewN n).drewN k) := Lib.hid fun n => number_any (Ep.same ⟨some b, v, h⟩ ((Turn.refl _ w1).drewN n))
  obtain ⟨W4, hW4⟩ := Classical.axiomOfChoice fun n : Nat => (hI.turn ((Turn.refl (fun _ => False) w1).drewN n) (fun h => h)).store (v := .int .i64 (E.len : Int)) law3 Try.underlying3 Try.underlying49 (by omega) (wf64 h1 h2)
  have hz : (pv E.P t).isSome = false := by unfold pv; rw [hl]; rfl
  simp only [hz, Bool.false_eq_true, if_false] at hW4
  have hrun := fun n => (hW4 n).1
  have HE := Lib.hid fun n => (hW4 n).2
  have a4 := fun n => (h.at_.turn ((Turn.refl (fun _ => False) w1).drewN n) (fun h => h)).turn (hW4 n).2.2 hb
  have c3 := fun n => (a4 n).cell 3
  have z3 := fun n => (a4 n).thawed 3
  have HH := Lib.hid (And.intro h hI)
  have HT := Lib.hid hT
  have cw := cnt_lt h.wf E.len
  generalize hC : cntk E.P E.len = C at cw c3
  simp at c3
  clear h hI hT hW4 a4 c0 z0 HM
  replace hC := Lib.hid hC
  go_region_with (go_at_call 27; refine (NB.out _).mono ?_; rintro e w3 ⟨rfl, n3, rfl⟩)
  all_goals
    go_wp2_with fail
    go_ret
    obtain rfl := hC.out
    refine ⟨rfl, ⟨some b, v, HH.out.1.pinned h1 h2 hl hP (HE.out _).1 (((Turn.refl _ w1).drewN _).then (HE.out _).2 (fun i _ h => h)) hb hz0⟩, HT.out.trans ?_⟩
    exact pin_turn HH.out.1 HH.out.2 (((Turn.refl _ w1).drewN _).then (HE.out _).2 (fun i _ h => h)) hz0 _

theorem pin_yes (h : Ep Z w eb E) (h1 : -9223372036854775808 ≤ t) (h2 : t ≤ 9223372036854775807) (hl : look E.P t = none) (hP : E.P.length < 100000) :
    Calls Try.prog 12 #[.pointer (some ⟨eb, 0, none⟩), .int .i64 t] w fun e w' => e = .returned (.bool true) ∧ Ep Z w' eb (E.pin t) ∧ Tn Eo Z w w' := by
  obtain ⟨m, v, h⟩ := h
  cases m with
  | none => exact pin_none h h1 h2 hl hP
  | some b => exact pin_some h h1 h2 hl hP

/-- Pin, whatever task. -/
theorem pin_any (h : Ep Z w eb E) (h1 : -9223372036854775808 ≤ t) (h2 : t ≤ 9223372036854775807) (hP : E.P.length < 100000) :
    Calls Try.prog 12 #[.pointer (some ⟨eb, 0, none⟩), .int .i64 t] w fun e w' => e = .returned (.bool (!(look E.P t).isSome)) ∧ Ep Z w' eb (E.pin t) ∧ Tn Eo Z w w' := by
  cases hl : look E.P t with
  | none => exact pin_yes h h1 h2 hl hP
  | some k =>
    refine (pin_no h h1 h2 (by rw [hl]; rfl)).mono ?_
    rintro e w' ⟨rfl, rfl⟩
    refine ⟨rfl, ?_, Tn.refl _ _ _⟩
    unfold Ab.pin
    rw [hl]
    exact h
end
end Go.Proofs.Ythohhehelnkpgaa
