/-
  What an epoch's functions come to: Retire, takeFirst, Pinned.
-/
import Derived.Test.YthohhehelnkpgaaWEpB
import Derived.Test.YthohhehelnkpgaaIter
import Derived.Deep.RegionLaw
import Derived.Laws.EntriesVeiled
namespace Go.Proofs.Ythohhehelnkpgaa
open Go.RowKit Go.Maps Go.IntWalk Go.Lib
set_option linter.unusedVariables false

/-- An append whose run is known; a structure, so that it is matched by its words alone. -/
structure AppRun (t ty : TypeId) (vs vx r : Value) (w w' : World) : Prop where
  out : (Builtin.append_ #[t, t] ty #[vs, vx]).run Try.prog w = .ok r w'
theorem step_append_run {w w' : World} {ops : Array Oper} {o : Oper} {a : Act} {K : Act → World → Prop} {Q : Exit → Act → World → Prop} {E : Prop} (hgd : o.guard = none) (s x : Operand) (t : TypeId)
    (ho : o.op = .call { callee := .builtin .append, args := #[s, x], argTypes := #[t, t] }) (vs vx r : Value) (hs : a.eval s = vs) (hx : a.eval x = vx) (hrun : AppRun t o.type vs vx r w w')
    (h : K (a.put o.dst r) w') : if Region.wanted o (yielded ops a.tmps) = true then Oper.wp Try.prog o a w K Q else E := by
  have hw : Region.wanted o (yielded ops a.tmps) = true := by simp [Region.wanted, hgd]
  rw [if_pos hw]
  unfold Oper.wp execOp
  simp only [ho, resolve, invoke, builtin, Sem.run_bind, Sem.run_pure, Result.andThen_ok, List.map_toArray, List.map_cons, List.map_nil, hs, hx, hrun.out]
  exact h
theorem wpList_append_run {P : Program} {w w' : World} {ops : Array Oper} {rest : List Oper} {o : Oper} {a : Act} {Q : Exit → Act → World → Prop} (hgd : o.guard = none) (s x : Operand) (t : TypeId)
    (ho : o.op = .call { callee := .builtin .append, args := #[s, x], argTypes := #[t, t] }) (vs vx r : Value) (hs : a.eval s = vs) (hx : a.eval x = vx) (hrun : (Builtin.append_ #[t, t] o.type #[vs, vx]).run P w = .ok r w')
    (h : wpList P ops Q rest (a.put o.dst r) w') : wpList P ops Q (o :: rest) a w :=
  wpList_plain hgd fun K hK => by
    unfold Oper.wp execOp
    simp only [ho, resolve, invoke, builtin, Sem.run_bind, Sem.run_pure, Result.andThen_ok, List.map_toArray, List.map_cons, List.map_nil, hs, hx, hrun]
    exact hK _ _ h

section
variable {Z : Nat} {w w' : World} {eb : Nat} {m : Option Nat} {v : Value} {E : Ab} {t : Int}

theorem retire_nil (f : Value) (w : World) : Calls Try.prog 13 #[.pointer none, f] w fun e w' => e = .returned (.bool false) ∧ w' = w := by
  go_enter Try.func13, Try.ntmps13
  go_wp2
  go_ret
  exact ⟨rfl, rfl⟩
theorem retire_none (eb : Nat) (w : World) : Calls Try.prog 13 #[.pointer (some ⟨eb, 0, none⟩), .nilFunc] w fun e w' => e = .returned (.bool false) ∧ w' = w := by
  have hf1 : ∀ w : World, (binOp .eql 1 Value.nilFunc .nilFunc).run Try.prog w = .ok (.bool true) w := by intro w; rfl
  go_enter Try.func13, Try.ntmps13
  go_wp2
  go_ret
  exact ⟨rfl, rfl⟩

/-- What a Retire leaves, as its fields are written. -/
theorem EpAt.retired {w4 : World} {A : Option Addr} {cap n : Nat} {f : Value} (h : EpAt Z w eb m v E) (hn : E.len < 100000) (ht : Turn (fun i => Z ≤ i ∧ ∃ c g, At w i (.cells c 55 g)) w w4) (hq : Que Z w4 (.slice A n cap) (wts E.P E.gone E.fs ++ [(f, cntk E.P E.len)])) :
    Ep Z ((w4.setCell ⟨eb, 1, none⟩ (.slice A n cap)).setCell ⟨eb, 3, none⟩ (.int .i64 0)) eb (E.retire f) ∧ Tn Eo Z w ((w4.setCell ⟨eb, 1, none⟩ (.slice A n cap)).setCell ⟨eb, 3, none⟩ (.int .i64 0)) := by
  have ha : At w4 eb _ := h.at_.turn ht (fun ⟨_, c, g, hc⟩ => h.ne hc rfl)
  have hp : Pm Z w4 m E.P := h.pm.turn ht (fun i es c hi => fun ⟨_, c', g, hc⟩ => by cases hi.eq hc)
  have tz : Turn (· = eb) w4 ((w4.setCell ⟨eb, 1, none⟩ (.slice A n cap)).setCell ⟨eb, 3, none⟩ (.int .i64 0)) := (set_turn _ _ _ _).trans (set_turn _ _ _ _)
  have h0 : cntk E.P (E.len + 1) = 0 := cnt_zero fun p hp => by have := (h.wf.nums p hp).2; omega
  have hl : (E.retire f).len = E.len + 1 := by simp [Ab.len, Ab.retire]; omega
  refine ⟨⟨m, .slice A n cap, ⟨?_, hp.turn tz (fun i es c hi e => by subst e; cases hi.eq ha), ?_, h.wf.retire f hn, h.base⟩⟩, ?_⟩
  · have := (ha.set 1 (.slice A n cap)).set 3 (.int .i64 0)
    rw [hl, show cntk (E.retire f).P (E.len + 1) = 0 from h0]
    exact this
  · have := hq.turn tz (fun i c g hi e => by subst e; exact hi.ne ha (by intro e; injection e with _ e; cases e) rfl)
    rw [show wts (E.retire f).P (E.retire f).gone (E.retire f).fs = wts E.P E.gone E.fs ++ [(f, cntk E.P E.len)] from wts_append _ _ _]
    exact this
  · refine Turn.then (Turn.mono ht (fun i _ ⟨hz, c, g, hc⟩ => ⟨hz, Or.inr ⟨c, 55, g, Or.inr rfl, hc⟩⟩) : Tn Eo Z w w4) tz (fun i _ e => by subst e; exact ⟨h.base, Or.inr ⟨_, 52, _, Or.inl rfl, h.at_⟩⟩)

set_option maxRecDepth 100000 in
set_option maxHeartbeats 1000000 in
theorem retire_any {fn : Nat} {caps : Array Value} (h : Ep Z w eb E) (hn : E.len < 100000) :
    Calls Try.prog 13 #[.pointer (some ⟨eb, 0, none⟩), .func (.func fn) #[] caps] w fun e w' => e = .returned (.bool true) ∧ Ep Z w' eb (E.retire (.func (.func fn) #[] caps)) ∧ Tn Eo Z w w' := by
  obtain ⟨m, v, h⟩ := h
  obtain ⟨A, cap, rfl⟩ := h.form
  have c1 := h.cells.2.1
  have c3 := h.cells.2.2.2.1
  have le := h.lt
  generalize hF : Value.func (.func fn) #[] caps = F
  generalize hC : cntk E.P E.len = C at c3
  have tz : Turn (fun _ => False) w ((w.alloc (.cells #[F, .int .i64 (C : Int)] 55)).drew) := ((Turn.refl _ w).alloc _).drew
  have hNz : At ((w.alloc (.cells #[F, .int .i64 (C : Int)] 55)).drew) w.heap.size (.cells #[F, .int .i64 (C : Int)] 55 (0, 0)) := At.new w _
  have hlen : E.fs.length < 1000000 := by have h3 : E.gone + E.fs.length < 100000 := hn; omega
  obtain ⟨A', cap', w4, hrun, hq, ht⟩ := (h.same tz).que.append w.heap.size 1 F C (by rw [← hF]; rfl) hNz (by rw [wts_len]; exact hlen) (Nat.le_trans h.base (Nat.le_trans (Nat.le_of_lt h.lt) tz.size)) 50
  rw [wts_len] at hrun hq
  have HR : AppRun 50 50 (.slice A E.fs.length cap) (.slice (some ⟨w.heap.size, 0, none⟩) 1 1) (.slice A' (E.fs.length + 1) cap') ((w.alloc (.cells #[F, .int .i64 (C : Int)] 55)).drew) w4 := ⟨hrun⟩
  have HQ := Lib.hid (And.intro hq (And.intro ht (And.intro (h.same tz) (And.intro h tz))))
  have a4 := (h.same tz).at_.turn ht (fun ⟨_, c, g, hc⟩ => (h.same tz).ne hc rfl)
  have z1 := a4.thawed 1
  have z3 := a4.thawed 3
  have k1 := a4.cell 1
  have k3 := a4.cell 3
  have hf1 : ∀ w : World, (binOp .eql 1 (Value.func (.func fn) #[] caps) .nilFunc).run Try.prog w = .ok (.bool false) w := by intro w; rfl
  subst hF
  replace hC := Lib.hid hC
  simp at k1 k3
  clear h tz hNz hrun hq ht a4
  go_enter Try.func13, Try.ntmps13
  go_wp2_with fail
  go_region_law ((refine step_append_run (by rfl) _ _ 50 (by rfl) _ _ _ (by rfl) (by rfl) HR ?_))
  all_goals
    go_wp2_with fail
    go_ret
    obtain rfl := hC.out
    obtain ⟨hq, ht, hs, h, tz⟩ := HQ.out
    obtain ⟨r1, r2⟩ := hs.retired hn ht hq
    exact ⟨rfl, r1, (Tn.of_same tz).trans r2⟩

/-- What waits first is taken. -/
theorem EpAt.took {q off cap : Nat} {f : Value} {r : List Value} {u : Value} (h : EpAt Z w eb m (.slice (some ⟨q, off, none⟩) E.fs.length cap) E) (hf : E.fs = f :: r) (h0 : cntk E.P E.gone = 0)
    (hu : u = if r.length = 0 then .slice none 0 0 else .slice (some ⟨q, off + 2, none⟩) r.length (cap - 1)) :
    Ep Z ((((w.setCell ⟨q, off, none⟩ .nilFunc).setCell ⟨q, off + 1, none⟩ (.int .i64 0)).setCell ⟨eb, 1, none⟩ u).setCell ⟨eb, 2, none⟩ (.int .i64 ((E.gone : Int) + 1))) eb E.take ∧
      Tn Eo Z w ((((w.setCell ⟨q, off, none⟩ .nilFunc).setCell ⟨q, off + 1, none⟩ (.int .i64 0)).setCell ⟨eb, 1, none⟩ u).setCell ⟨eb, 2, none⟩ (.int .i64 ((E.gone : Int) + 1))) := by
  have hq : QueAt Z w q off cap ((f, cntk E.P E.gone) :: wts E.P (E.gone + 1) r) := by
    rcases h.que with ⟨h0, _⟩ | ⟨q', off', cap', he, hq'⟩
    · cases h0
    · injection he with ha _ hc
      injection ha with ha
      injection ha with ha hb
      subst ha; subst hb; subst hc
      rw [hf] at hq'
      exact hq'
  obtain ⟨c, hc, _⟩ := hq.row
  have hqe := h.ne hc
  have hne : E.fs ≠ [] := by rw [hf]; simp
  have t1 : Turn (· = q) w ((w.setCell ⟨q, off, none⟩ .nilFunc).setCell ⟨q, off + 1, none⟩ (.int .i64 0)) := (set_turn _ _ _ _).trans (set_turn _ _ _ _)
  have hT := hq.tail .nilFunc (.int .i64 0)
  have ha := h.at_.turn t1 hqe
  have hp := h.pm.turn t1 (fun i es cl hi e => by subst e; cases hi.eq hc)
  generalize (w.setCell ⟨q, off, none⟩ .nilFunc).setCell ⟨q, off + 1, none⟩ (.int .i64 0) = w1 at *
  have t2 : Turn (· = eb) w1 ((w1.setCell ⟨eb, 1, none⟩ u).setCell ⟨eb, 2, none⟩ (.int .i64 ((E.gone : Int) + 1))) := (set_turn _ _ _ _).trans (set_turn _ _ _ _)
  have e1 : E.take.fs = r := by show E.fs.tail = r; rw [hf]; rfl
  have e2 : E.take.len = E.len := Ab.take_len hne
  have e3 : E.take.gone = E.gone + 1 := rfl
  refine ⟨⟨m, u, ⟨?_, hp.turn t2 (fun i es cl hi e => by subst e; cases hi.eq ha), ?_, h.wf.take hne h0, h.base⟩⟩, ?_⟩
  · rw [e2, e3, show ((E.gone + 1 : Nat) : Int) = (E.gone : Int) + 1 by omega]
    exact (ha.set 1 u).set 2 _
  · rw [e1, e3]
    have hq2 := hT.turn t2 hqe.symm
    by_cases hr : r.length = 0
    · rw [if_pos hr] at hu
      exact Or.inl ⟨hu, by rw [List.length_eq_zero_iff.1 hr]; rfl⟩
    · rw [if_neg hr] at hu
      exact Or.inr ⟨q, off + 2, cap - 1, by rw [wts_len]; exact hu, hq2⟩
  · exact Turn.then (Turn.mono t1 (fun i _ e => by subst e; exact ⟨hq.base, Or.inr ⟨c, 55, _, Or.inr rfl, hc⟩⟩) : Tn Eo Z w w1) t2 (fun i _ e => by subst e; exact ⟨h.base, Or.inr ⟨_, 52, _, Or.inl rfl, h.at_⟩⟩)

set_option maxRecDepth 100000 in
set_option maxHeartbeats 1000000 in
theorem take_any {f : Value} {r : List Value} (h : Ep Z w eb E) (hf : E.fs = f :: r) (h0 : cntk E.P E.gone = 0) :
    Calls Try.prog 30 #[.pointer (some ⟨eb, 0, none⟩)] w fun e w' => e = .returned f ∧ Ep Z w' eb E.take ∧ Tn Eo Z w w' := by
  obtain ⟨m, v, h⟩ := h
  have hq0 := h.que
  rcases hq0 with ⟨_, hz⟩ | ⟨q, off, cap, rfl, hq⟩
  · rw [hf] at hz; cases hz
  rw [wts_len] at *
  have hx : (wts E.P E.gone E.fs)[0]? = some (f, cntk E.P E.gone) := by rw [hf]; rfl
  obtain ⟨k0, k1⟩ := hq.cell hx
  have z0 := hq.thaw off
  have z1 := hq.thaw (off + 1)
  have lq := hq.lt
  have hle := hq.le
  rw [wts_len] at hle
  have hlen : E.fs.length = r.length + 1 := by rw [hf]; rfl
  obtain ⟨c, hc, _⟩ := hq.row
  have hqe := h.ne hc
  have c1 := h.cells.2.1
  have c2 := h.cells.2.2.1
  have y1 := h.thaw 1
  have y2 := h.thaw 2
  have hs : E.gone + E.fs.length ≤ 100000 := h.wf.small.2
  simp at k0 k1
  have H := Lib.hid (And.intro h hf)
  rw [hlen] at c1 hle hs
  clear h hq hx hc hf
  by_cases hr : r.length = 0
  · have r0 : ((r.length : Int) == 0) = true := by simp [hr]
    go_enter Try.func30, Try.ntmps30
    go_wp2_with fail
    all_goals
      go_ret
      obtain ⟨h, hf⟩ := H.out
      obtain ⟨r1, r2⟩ := h.took hf h0 (u := .slice none 0 0) (by rw [if_pos hr])
      rw [setCell_setCell]
      exact ⟨rfl, r1, r2⟩
  · have r0 : ((r.length : Int) == 0) = false := by simpa using hr
    go_enter Try.func30, Try.ntmps30
    go_wp2_with fail
    go_ret
    obtain ⟨h, hf⟩ := H.out
    obtain ⟨r1, r2⟩ := h.took hf h0 (u := .slice (some ⟨q, off + 2, none⟩) r.length (cap - 1)) (by rw [if_neg hr])
    exact ⟨rfl, r1, r2⟩

/-- The pinned tasks, rising. -/
def Ab.tasks (E : Ab) : List Int := E.P.map (·.1)
theorem Ab.tasks_up (h : E.wf) : E.tasks.Pairwise (· < ·) := List.pairwise_map.2 h.up
theorem mem_tasks (h : E.wf) (i : Int) : i ∈ E.tasks ↔ (pv E.P i).isSome = true := by
  unfold Ab.tasks pv
  rw [List.mem_map, Option.isSome_map, look_isSome h.up]
  constructor
  · rintro ⟨p, hp, rfl⟩; exact ⟨p.2, hp⟩
  · rintro ⟨k, hk⟩; exact ⟨_, hk, rfl⟩
theorem rising_ext : ∀ {a b : List Int}, a.Pairwise (· < ·) → b.Pairwise (· < ·) → (∀ i, i ∈ a ↔ i ∈ b) → a = b
  | [], [], _, _, _ => rfl
  | [], y :: b, _, _, h => by have := (h y).2 (by simp); simp at this
  | x :: a, [], _, _, h => by have := (h x).1 (by simp); simp at this
  | x :: a, y :: b, ha, hb, h => by
    obtain ⟨a1, a2⟩ := List.pairwise_cons.1 ha
    obtain ⟨b1, b2⟩ := List.pairwise_cons.1 hb
    have hxy : x = y := by
      rcases List.mem_cons.1 ((h x).1 (by simp)) with e | e
      · exact e
      · rcases List.mem_cons.1 ((h y).2 (by simp)) with e' | e'
        · exact e'.symm
        · have := b1 x e; have := a1 y e'; omega
    subst hxy
    refine congrArg _ (rising_ext a2 b2 fun i => ?_)
    constructor
    · intro hi
      rcases List.mem_cons.1 ((h i).1 (by simp [hi])) with e | e
      · have := a1 i hi; omega
      · exact e
    · intro hi
      rcases List.mem_cons.1 ((h i).2 (by simp [hi])) with e | e
      · have := b1 i hi; omega
      · exact e

theorem pinned_nil (w : World) : Calls Try.prog 17 #[.pointer none] w fun e w' => e = .returned (.slice none 0 0) ∧ w' = w := by
  go_enter Try.func17, Try.ntmps17
  go_wp2
  go_ret
  exact ⟨rfl, rfl⟩

/-- What Pinned answers: the tasks, in a row of its own. -/
def PinnedPost (w : World) (l : List Int) (e : Ending) (w' : World) : Prop := ∃ (A : Option Addr) (cap : Nat) (B : Nat), e = .returned (.slice A l.length cap) ∧ w.heap.size ≤ B ∧ w'.ownsRow B 3 1 (.slice A l.length cap) l.length (l.map (Value.int .i64)) ∧ Turn (fun _ => False) w w'

set_option maxRecDepth 100000 in
set_option maxHeartbeats 1000000 in
theorem pinned_any (h : Ep Z w eb E) : Calls Try.prog 17 #[.pointer (some ⟨eb, 0, none⟩)] w (PinnedPost w E.tasks) := by
  obtain ⟨m, v, h⟩ := h
  have c0 := h.cells.1
  have HK := Lib.hid (sortedAtI.keys m w)
  have HS : Hid (∃ f, (∀ i, i ∈ E.tasks ↔ (f i).isSome = true) ∧ Calls Try.prog 31 #[.func (.func 41) #[] #[.pointer (some ⟨w.heap.size, 0, none⟩)]] (w.alloc (.cells #[.map m] 49)) (SortedPost f (w.alloc (.cells #[.map m] 49)))) := by
    rcases h.pm with ⟨rfl, hP⟩ | ⟨b, rfl, _, hI⟩
    · refine ⟨fun _ => none, fun i => ?_, sortedAtI.sortedNil w⟩
      unfold Ab.tasks
      rw [hP]
      simp
    · exact ⟨pv E.P, mem_tasks h.wf, sortedAtI.sorted w b E.P.length _ hI (by have := h.wf.small.1; omega)⟩
  have HU := Lib.hid (Ab.tasks_up h.wf)
  obtain ⟨f, hmem, hS⟩ := HS.out
  have HM := Lib.hid hmem
  have HT := Lib.hid hS
  clear h HS hmem hS
  go_enter Try.func17, Try.ntmps17
  go_wp2_with fail
  refine HK.out.mono ?_
  rintro e w1 ⟨rfl, rfl⟩
  go_wp2_with fail
  refine HT.out.mono ?_
  rintro e w3 ⟨v, ks, rfl, hmem, hup, hrow, ht3⟩
  have hks : ks = E.tasks := rising_ext hup HU.out (fun i => (hmem i).trans (HM.out i).symm)
  subst hks
  obtain ⟨R, capR, rfl⟩ := krow_form hrow
  have HE := Lib.hid (And.intro hrow ht3)
  clear hmem hup hrow ht3 HK HT
  go_wp2_with fail
  go_ret
  obtain ⟨hrow, ht3⟩ := HE.out
  exact ⟨R, capR, (w.alloc (.cells #[.map m] 49)).heap.size, rfl, by simp, hrow, ((Turn.refl _ w).alloc _).trans ht3⟩
end
end Go.Proofs.Ythohhehelnkpgaa
