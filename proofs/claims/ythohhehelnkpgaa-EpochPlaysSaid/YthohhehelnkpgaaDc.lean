/-
  The document's epoch in memory; what its Pin comes to.
-/
import Derived.Test.YthohhehelnkpgaaDocE
import Derived.Deep.Upon
namespace Go.Proofs.Ythohhehelnkpgaa
open Go.RowKit Go.Maps Go.IntWalk Go.Lib
set_option linter.unusedVariables false

def flatR : Nat → List Value → List Value
  | _, [] => []
  | g, v :: r => .int .i64 (g : Int) :: v :: flatR (g + 1) r
theorem flatR_len : ∀ (ws : List Value) (g : Nat), (flatR g ws).length = ws.length * 2
  | [], _ => rfl
  | v :: r, g => by
    have := flatR_len r (g + 1)
    simp only [flatR, List.length_cons, this]; omega
theorem flatR_at : ∀ (ws : List Value) (g i : Nat) (v : Value), ws[i]? = some v → (flatR g ws)[i * 2]? = some (.int .i64 ((g + i : Nat) : Int)) ∧ (flatR g ws)[i * 2 + 1]? = some v
  | [], _, _, _, h => by simp at h
  | u :: r, g, 0, v, h => by simp at h; subst h; exact ⟨rfl, rfl⟩
  | u :: r, g, i + 1, v, h => by
    have := flatR_at r (g + 1) i v (by simpa using h)
    rw [show (i + 1) * 2 = i * 2 + 1 + 1 by omega, show i * 2 + 1 + 1 + 1 = (i * 2 + 1) + 1 + 1 by omega, show g + (i + 1) = g + 1 + i by omega]
    simpa [flatR] using this
theorem flatR_set : ∀ (ws : List Value) (g i : Nat) (v : Value), i < ws.length → (flatR g ws).set (i * 2 + 1) v = flatR g (ws.set i v)
  | [], _, _, _, h => by simp at h
  | u :: r, g, 0, v, h => rfl
  | u :: r, g, i + 1, v, h => by
    have := flatR_set r (g + 1) i v (by simpa using h)
    rw [show (i + 1) * 2 + 1 = (i * 2 + 1) + 1 + 1 by omega]
    simp [flatR, this]
theorem flatR_snoc : ∀ (ws : List Value) (g : Nat) (v : Value), flatR g (ws ++ [v]) = flatR g ws ++ [.int .i64 ((g + ws.length : Nat) : Int), v]
  | [], g, v => rfl
  | u :: r, g, v => by
    have := flatR_snoc r (g + 1) v
    simp only [List.cons_append, flatR, this, List.length_cons]
    rw [show g + 1 + r.length = g + (r.length + 1) by omega]

/-- The document's epoch, at block qb; none of its rows is the row av. -/
structure DcAt (Z : Nat) (w : World) (qb : Nat) (av : Option Nat) (E : Ab) (pv_ lv : Value) (ws : List Value) : Prop where
  at_ : At w qb (.cells #[pv_, lv] 35 (0, 0))
  pins : Nums Z w pv_ E.tasks
  pav : ∀ i, pv_.ownBlock = some i → av ≠ some i
  row : w.ownsRow Z 65 2 lv E.fs.length (flatR E.gone ws)
  len : ws.length = E.fs.length
  waits : ∀ i v, ws[i]? = some v → Nums Z w v (wl E.P (E.gone + i)) ∧ ∀ b, v.ownBlock = some b → av ≠ some b
  wf : E.wf
  base : Z ≤ qb
def Dc (Z : Nat) (w : World) (qb : Nat) (av : Option Nat) (E : Ab) : Prop := ∃ pv_ lv ws, DcAt Z w qb av E pv_ lv ws
def Ro (t : TypeId) : Prop := t = 35 ∨ t = 65
/-- Rows of some types have turned, and no map. -/
def Kr (T : TypeId → Prop) (Z : Nat) (w : World) (i : Nat) : Prop := Z ≤ i ∧ (False ∨ ∃ c t f, T t ∧ At w i (.cells c t f))
def Tr (T : TypeId → Prop) (Z : Nat) (w w' : World) : Prop := Turn (Kr T Z w) w w'
section
variable {T U : TypeId → Prop} {Z : Nat} {w w' w'' a b : World} {g : Nat}
theorem Kr.back (h : Turn (Kr T Z a) a b) {i : Nat} (hi : i < a.heap.size) (k : Kr T Z b i) : Kr T Z a i := by
  by_cases hk : Kr T Z a i
  · exact hk
  · have hb := h.block i hi hk
    obtain ⟨hz, k⟩ := k
    rcases k with k | ⟨c, t, f, ht, k⟩
    · exact k.elim
    · exact ⟨hz, Or.inr ⟨c, t, f, ht, k.of_eq hb⟩⟩
theorem Tr.refl (T : TypeId → Prop) (Z : Nat) (w : World) : Tr T Z w w := Turn.refl _ w
theorem Tr.trans (h : Tr T Z w w') (k : Tr T Z w' w'') : Tr T Z w w'' := Turn.then h k fun i hi hk => Kr.back h hi hk
theorem Tr.of_same (h : Turn (fun _ => False) w w') : Tr T Z w w' := Turn.mono h fun _ _ h => h.elim
theorem Tr.set {c : Array Value} {t : TypeId} {f : Nat × Nat} (h : At w g (.cells c t f)) (hT : T t) (hZ : Z ≤ g) (i : Nat) (u : Value) : Tr T Z w (w.setCell ⟨g, i, none⟩ u) :=
  (Turn.refl _ w).setCell (p := ⟨g, i, none⟩) (Or.inl ⟨hZ, Or.inr ⟨c, t, f, hT, h⟩⟩) u
theorem Tr.tn (h : Tr T Z w w') (hT : ∀ t, T t → U t) : Tn U Z w w' := Turn.mono h fun i _ k => by
  obtain ⟨hz, k⟩ := k
  rcases k with k | ⟨c, t, f, ht, k⟩
  · exact k.elim
  · exact ⟨hz, Or.inr ⟨c, t, f, hT t ht, k⟩⟩
theorem Ep.keepR {eb : Nat} {E : Ab} (h : Ep Z w eb E) (t : Tr Ro Z w w') : Ep Z w' eb E := by
  obtain ⟨m, v, h⟩ := h
  refine ⟨m, v, h.turn t ?_ ?_ ?_⟩
  · rintro ⟨_, k | ⟨c, t, f, ht, k⟩⟩
    · exact k
    · have := h.at_.eq k
      injection this with _ e _
      subst e
      rcases ht with e | e <;> cases e
  · rintro i c f hi ⟨_, k | ⟨c2, t, f2, ht, k⟩⟩
    · exact k
    · have := hi.eq k
      injection this with _ e _
      subst e
      rcases ht with e | e <;> cases e
  · rintro i es c hi ⟨_, k | ⟨c2, t, f2, ht, k⟩⟩
    · exact k
    · cases hi.eq k
end
theorem wpList_append_hid {w w' : World} {ops : Array Oper} {rest : List Oper} {o : Oper} {a : Act} {Q : Exit → Act → World → Prop} (hgd : o.guard = none) (s x : Operand) (t : TypeId)
    (ho : o.op = .call { callee := .builtin .append, args := #[s, x], argTypes := #[t, t] }) (vs vx r : Value) (hs : a.eval s = vs) (hx : a.eval x = vx) (hrun : AppRun t o.type vs vx r w w')
    (h : wpList Try.prog ops Q rest (a.put o.dst r) w') : wpList Try.prog ops Q (o :: rest) a w := wpList_append_run hgd s x t ho vs vx r hs hx hrun.out h

section
variable {Z qb : Nat} {av : Option Nat} {w w' : World} {E : Ab} {pv_ lv : Value} {ws : List Value} {t : Int}
theorem DcAt.turn {X : Nat → Prop} (h : DcAt Z w qb av E pv_ lv ws) (t : Turn X w w') (hX : ∀ i c ty f, At w i (.cells c ty f) → (ty = 35 ∨ ty = 65 ∨ (ty = 3 ∧ av ≠ some i)) → ¬ X i) : DcAt Z w' qb av E pv_ lv ws :=
  ⟨h.at_.turn t (hX _ _ _ _ h.at_ (Or.inl rfl)), h.pins.turn t (fun i c ho hi _ => hX _ _ _ _ hi (Or.inr (Or.inr ⟨rfl, h.pav i ho⟩))), h.pav, own_turn h.row t (fun i c _ hi _ => hX _ _ _ _ hi (Or.inr (Or.inl rfl))), h.len,
    fun i v hv => ⟨(h.waits i v hv).1.turn t (fun b c ho hi _ => hX _ _ _ _ hi (Or.inr (Or.inr ⟨rfl, (h.waits i v hv).2 b ho⟩))), (h.waits i v hv).2⟩, h.wf, h.base⟩
theorem DcAt.same (h : DcAt Z w qb av E pv_ lv ws) (t : Turn (fun _ => False) w w') : DcAt Z w' qb av E pv_ lv ws := h.turn t (fun _ _ _ _ _ _ h => h)
theorem Dc.same (h : Dc Z w qb av E) (t : Turn (fun _ => False) w w') : Dc Z w' qb av E := by
  obtain ⟨p, l, ws, h⟩ := h
  exact ⟨p, l, ws, h.same t⟩
theorem DcAt.cells (h : DcAt Z w qb av E pv_ lv ws) : w.cell? ⟨qb, 0, none⟩ = some pv_ ∧ w.cell? ⟨qb, 1, none⟩ = some lv := by
  rw [h.at_.cell, h.at_.cell]; exact ⟨rfl, rfl⟩
theorem DcAt.lt (h : DcAt Z w qb av E pv_ lv ws) : qb < w.heap.size := h.at_.lt
/-- New rows avoid what is older. -/
theorem new_av {v : Value} {l : List Int} {w0 : World} (h : Nums w0.heap.size w v l) (ha : ∀ i, av = some i → i < w0.heap.size) : ∀ i, v.ownBlock = some i → av ≠ some i := fun i hi e => by
  have h1 := (own_block h hi).2.1
  have := ha i e
  omega

/-- 'append' of nothing. -/
theorem append_nothing (v : Value) {n : Nat} {xs : List Value} (h : w.ownsRow Z 3 1 v n xs) (A : Option Addr) (c ty : Nat) : (Builtin.append_ #[27, 27] ty #[v, .slice A 0 c]).run Try.prog w = .ok v w := by
  obtain ⟨i0, hi, hz0, hz1, hz2⟩ := info_parts info3
  obtain ⟨B, cap, rfl⟩ := own_form h
  have hle : n ≤ cap := by
    rcases h.2 with ⟨e, h0⟩ | ⟨g, cap', cur, hv, _, _, hle, _⟩
    · rw [h0]; exact Nat.zero_le _
    · injection hv with _ _ hc; rw [hc]; exact hle
  refine run_append_nothing (P := Try.prog) w 27 27 ty 3 i0 Try.underlying27 hi B n cap hle _ ?_
  cases A with
  | none => exact Src.ofNil w Try.underlying27 c
  | some a => exact Src.ofSlice w Try.underlying27 a 0 c [] (by simp) (fun j u h => by simp at h) (fun u h => by cases h)

/-- 'append(v, x[a:b]...)': v a list, what is appended another one's part. -/
theorem append_part {v : Value} {l l2 : List Int} (h : Nums Z w v l) {Z2 : Nat} {g n cap : Nat} (h2 : Nums Z2 w (.slice (some ⟨g, 0, none⟩) n cap) l2) (a m c : Nat) (ha : a + m ≤ l2.length) (hl : l.length + m < 1000000) (hb : Z ≤ w.heap.size) (ty : TypeId) :
    ∃ A capA w', (Builtin.append_ #[27, 27] ty #[v, .slice (some ⟨g, a, none⟩) m c]).run Try.prog w = .ok (.slice A (l.length + m) capA) w' ∧ Nums Z w' (.slice A (l.length + m) capA) (l ++ (l2.drop a).take m) ∧ Turn (fun i => v.ownBlock = some i) w w' := by
  refine h.append ⟨g, a, none⟩ m c ((l2.drop a).take m) (by rw [List.length_take, List.length_drop]; omega) (fun j x hx => ?_) hl hb ty
  have hj : j < m := by
    have := (List.getElem?_eq_some_iff.1 hx).1
    rw [List.length_take] at this
    omega
  rw [List.getElem?_take, if_pos hj, List.getElem?_drop] at hx
  have hal := (List.getElem?_eq_some_iff.1 hx).1
  obtain ⟨g', x', hA, hx', _, _, _, hc⟩ := h2.at hal
  injection hA with hA
  injection hA with hA
  subst hA
  rw [hx] at hx'
  injection hx' with hx'
  subst hx'
  rw [Addr.add_lit]
  exact hc

theorem lt1_spec (t : Int) : ∀ (l : List Int) (j : Nat), j ≤ l.length → (∀ x ∈ l.take j, x < t) → (∀ x, l[j]? = some x → ¬ x < t) → lt1 t l = j
  | [], j, h, _, _ => by simp at h; subst h; rfl
  | x :: r, 0, _, _, h => by
    have := h x rfl
    unfold lt1
    rw [List.takeWhile_cons, if_neg (by simpa using this)]
    rfl
  | x :: r, j + 1, hj, h1, h2 => by
    have hx := h1 x (by simp)
    have ih := lt1_spec t r j (by simpa using hj) (fun y hy => h1 y (by simp [hy])) (fun y hy => h2 y (by simpa using hy))
    unfold lt1 at ih ⊢
    rw [List.takeWhile_cons, if_pos (by simpa using hx), List.length_cons, ih]

theorem rpin_no (h : Dc Z w qb av E) (hm : t ∈ E.tasks) : Calls Try.prog 19 #[.pointer (some ⟨qb, 0, none⟩), .int .i64 t] w fun e w' => e = .returned (.bool false) ∧ w' = w := by
  obtain ⟨p, l, ws, h⟩ := h
  have HH := Lib.hid (has_any h.pins t (by unfold Ab.tasks; rw [List.length_map]; exact h.wf.small.1))
  rw [decide_eq_true hm] at HH
  have c0 := h.cells.1
  clear h
  go_enter Try.func19, Try.ntmps19
  go_wp2_with fail
  refine HH.out.mono ?_
  rintro e w1 ⟨rfl, rfl⟩
  go_wp2_with fail
  go_ret
  exact ⟨rfl, rfl⟩

/-- What a Pin leaves: a new list in the first field. -/
theorem DcAt.pinned {w2 : World} {v : Value} (h : DcAt Z w qb av E pv_ lv ws) (h1 : -9223372036854775808 ≤ t) (h2 : t ≤ 9223372036854775807) (hP : E.P.length < 100000) (hl : look E.P t = none) (ht : Turn (fun _ => False) w w2) (hv : Nums w.heap.size w2 v (E.tasks.take (lt1 t E.tasks) ++ t :: E.tasks.drop (lt1 t E.tasks))) (ha : ∀ i, av = some i → i < w.heap.size) :
    Dc Z (w2.setCell ⟨qb, 0, none⟩ v) qb av (E.pin t) ∧ Tr Ro Z w (w2.setCell ⟨qb, 0, none⟩ v) := by
  have hp : E.pin t = { E with P := ins t E.len E.P } := by unfold Ab.pin; rw [hl]; rfl
  have hwf := h.wf.pin h1 h2 hP
  have s := h.same ht
  have tz := set_turn w2 qb 0 v
  have no : ∀ i c ty f, At w2 i (.cells c ty f) → ty ≠ 35 → ¬ i = qb := fun i c ty f hi hne e => by
    subst e
    have := hi.eq s.at_
    injection this with _ e _
    exact hne e
  have ht2 : (E.pin t).tasks = E.tasks.take (lt1 t E.tasks) ++ t :: E.tasks.drop (lt1 t E.tasks) := by
    rw [hp]; exact map_ins E.len E.P t
  refine ⟨⟨v, lv, ws, ⟨s.at_.set 0 v, ?_, new_av hv ha, ?_, ?_, fun i u hu => ?_, hwf, h.base⟩⟩, (Tr.of_same ht).trans (Tr.set s.at_ (Or.inl rfl) h.base 0 v)⟩
  · rw [ht2]
    exact (hv.mono (Nat.le_trans h.base (Nat.le_of_lt h.lt))).turn tz (fun i c _ hi _ => no _ _ _ _ hi (by decide))
  · rw [hp]; exact own_turn s.row tz (fun i c _ hi _ => no _ _ _ _ hi (by decide))
  · rw [hp]; exact h.len
  · obtain ⟨n1, n2⟩ := s.waits i u hu
    have hi : i < E.fs.length := by have := (List.getElem?_eq_some_iff.1 hu).1; have := h.len; omega
    refine ⟨?_, n2⟩
    rw [hp]
    show Nums Z _ u (wl (ins t E.len E.P) (E.gone + i))
    rw [wl_ins _ _ _ (by unfold Ab.len; omega)]
    exact n1.turn tz (fun i c _ hi _ => no _ _ _ _ hi (by decide))


theorem Tno {w w' : World} (h : Turn (fun i => (Value.slice none 0 0).ownBlock = some i) w w') : Turn (fun _ => False) w w' := Turn.mono h fun i _ e => by cases e
theorem Tnew {w0 w w' : World} {v : Value} {n : Nat} {xs : List Value} (h : w.ownsRow w0.heap.size 3 1 v n xs) (t0 : Turn (fun _ => False) w0 w) (t : Turn (fun i => v.ownBlock = some i) w w') : Turn (fun _ => False) w0 w' :=
  t0.then t fun i hi e => by have := (own_block h e).2.1; omega

set_option maxRecDepth 100000 in
set_option maxHeartbeats 2000000 in
theorem rpin_nil {cap0 : Nat} (h : DcAt Z w qb av E (.slice none 0 cap0) lv ws) (h1 : -9223372036854775808 ≤ t) (h2 : t ≤ 9223372036854775807) (hP : E.P.length < 100000) (hl : look E.P t = none) (hT : E.tasks = []) (hc : cap0 = 0) (ha : ∀ i, av = some i → i < w.heap.size) :
    Calls Try.prog 19 #[.pointer (some ⟨qb, 0, none⟩), .int .i64 t] w fun e w' => e = .returned (.bool true) ∧ Dc Z w' qb av (E.pin t) ∧ Tr Ro Z w w' := by
  subst hc
  have HH := has_any h.pins t (by rw [hT]; simp)
  rw [hT] at HH
  replace HH : Hid (Calls Try.prog 34 #[.slice none 0 0, .int .i64 t] w fun e w' => e = .returned (.bool false) ∧ w' = w) := by simpa using Lib.hid HH
  have c0 := h.cells.1
  have z0 := h.at_.thawed 0
  have lq := h.lt
  have HR1 : AppRun 27 27 (.slice none 0 0) (.slice none 0 0) (.slice none 0 0) w w := ⟨append_nothing (Z := w.heap.size) _ (World.ownsRow_nil w _ 3 1) none 0 27⟩
  have tz : Turn (fun _ => False) w (w.alloc (.cells #[.int .i64 t] 3)) := (Turn.refl _ w).alloc _
  obtain ⟨A2, cap2, w2, hrun2, hN2, ht2⟩ := (Nums.nil w.heap.size (w.alloc (.cells #[.int .i64 t] 3))).append ⟨w.heap.size, 0, none⟩ 1 1 [t] rfl (fun i y hy => by
    rw [Addr.add_lit, (At.new w _).cell]
    rcases i with _ | i
    · simp at hy; subst hy; rfl
    · simp at hy) (by simp) tz.size 27
  have HR2 : AppRun 27 27 (.slice none 0 0) (.slice (some ⟨w.heap.size, 0, none⟩) 1 1) (.slice A2 1 cap2) (w.alloc (.cells #[.int .i64 t] 3)) w2 := ⟨hrun2⟩
  have HR3 : AppRun 27 27 (.slice A2 1 cap2) (.slice none 0 0) (.slice A2 1 cap2) w2 w2 := ⟨append_nothing _ hN2 none 0 27⟩
  have ht : Turn (fun _ => False) w w2 := tz.trans (Tno ht2)
  have HP := Lib.hid (h.pinned h1 h2 hP hl ht (v := .slice A2 1 cap2) (by rw [hT]; exact hN2) ha)
  have s2 := h.same ht
  have c02 := s2.cells.1
  have z02 := s2.at_.thawed 0
  clear h hl hT ha tz hrun2 hN2 ht2 ht s2
  go_enter Try.func19, Try.ntmps19
  go_wp2_with fail
  refine HH.out.mono ?_
  rintro e w1 ⟨rfl, hq⟩
  have hq := hq.symm
  subst hq
  clear HH
  go_wp2_with fail
  go_loopw [5] (fun i wz => i = .int .i64 0 ∧ w = wz) (fun i _ => 0)
  case atStart => exact ⟨rfl, rfl⟩
  case round =>
    obtain ⟨rfl, hw⟩ := hrel
    subst hw
    go_wp2_with (first | (at_builtin; refine wpList_append_hid rfl _ _ 27 rfl _ _ _ rfl rfl HR1 ?_) | (at_builtin; refine wpList_append_hid rfl _ _ 27 rfl _ _ _ rfl rfl HR2 ?_) | (at_builtin; refine wpList_append_hid rfl _ _ 27 rfl _ _ _ rfl rfl HR3 ?_))
    go_ret
    exact ⟨rfl, HP.out⟩
end
end Go.Proofs.Ythohhehelnkpgaa
