/-
  New, Begin, Mark, End.
-/
import Derived.Test.YthopiamiipmobaaHs
namespace Go.Proofs.Ythopiamiipmobaa
open Go.RowKit Go.Lib
set_option linter.unusedVariables false
set_option linter.unusedSimpArgs false

theorem new_any (w : World) : Calls Try.prog 10 #[] w fun r w' => r = .returned (.pointer (some ⟨w.heap.size, 0, none⟩)) ∧ Turn No w w' ∧ w'.heap.size = w.heap.size + 1 ∧ Hs w' w.heap.size w.heap.size [] [] (fun i => i = w.heap.size) := by
  go_enter Try.func10, Try.ntmps10
  go_wp2_with fail
  go_ret
  refine ⟨rfl, (Turn.refl _ _).alloc _, by simp, ?_⟩
  refine ⟨[], none, 0, none, rfl, ⟨At.new _ _, World.ownsRow_nil _ _ _ _, .inl ⟨rfl, rfl⟩, (fun b h => by cases h), .nil, .nil _ _, Nat.le_refl _⟩, ?_⟩
  rintro i ((h | h | h) | ⟨e, he, _⟩)
  · exact h
  · cases h
  · cases h
  · cases he

def op00 : Opx := ⟨0, ⟨#[]⟩, ⟨#[]⟩, ⟨#[]⟩, false, false, none, 0, 0⟩
theorem fit0 : Fit ⟨#[]⟩ := by unfold Fit; decide
@[reducible] def Opx.val (o : Opx) : Value := .agg #[.int .u8 o.kind, .string o.k, .string o.v, .string o.o, .bool o.had, .bool o.aft, .slice o.A o.len o.cap]
@[reducible] def Ans.val (a : Ans) : Value := .agg #[.int .i64 a.code, .bool a.found, .string a.k, .string a.v]
/-- An operation within reach; an answer within reach. -/
structure Opx.fit (o : Opx) (ws : List Wr) : Prop where
  k : Fit o.k
  v : Fit o.v
  oo : Fit o.o
  wf : ∀ x ∈ ws, x.fit
  n : ws.length = o.len
  few : o.len ≤ 100000
structure Ans.fit (a : Ans) : Prop where
  k : Fit a.k
  v : Fit a.v
theorem ans00_fit : ans00.fit := ⟨fit0, fit0⟩
theorem op00_fit : op00.fit [] := ⟨fit0, fit0, fit0, (by simp), rfl, by decide⟩
theorem Ev.fit.mk' {kind id : Int} {o : Opx} {a : Ans} {ws : List Wr} (hi : In64 id) (ho : o.fit ws) (ha : a.fit) : Ev.fit ⟨kind, id, o, a⟩ ws := ⟨hi, ho.k, ho.v, ho.oo, ha.k, ha.v, ho.wf, ho.n, ho.few⟩
theorem Ev.fit.an' {e : Ev} {ws : List Wr} (h : e.fit ws) : e.an.fit := ⟨h.ak, h.av⟩
theorem Ev.fit.op' {e : Ev} {ws : List Wr} (h : e.fit ws) : e.op.fit ws := ⟨h.k, h.v, h.o, h.wf, h.n, h.few⟩
theorem kn_fit {l : List Ev} (h : ∀ e ∈ l, e.an.fit) (i : Int) : (kn l i).an.fit := by
  have : ∀ (l : List Ev) (m : Int → Kn), (∀ e ∈ l, e.an.fit) → (∀ i, (m i).an.fit) → ∀ i, (l.foldl upd m i).an.fit := by
    intro l
    induction l with
    | nil => intro m _ hm i; exact hm i
    | cons e l ih =>
      intro m hl hm i
      refine ih _ (fun e' h' => hl e' (List.mem_cons_of_mem _ h')) ?_ i
      intro j
      unfold upd
      split
      · exact hl e List.mem_cons_self
      · exact hm j
  exact this l _ h (fun _ => ans00_fit) i
theorem Hs.known {w : World} {Z hb : Nat} {L : List Ev} {ps : List (List Wr)} {X : Nat → Prop} (h : Hs w Z hb L ps X) (i : Int) : (kn L i).an.fit := kn_fit (fun e he => by
  obtain ⟨j, hj⟩ := List.mem_iff_getElem?.1 he
  obtain ⟨ws, _, hf⟩ := h.fit hj
  exact hf.an') i

section
variable {Z hb : Nat} {L : List Ev} {ps : List (List Wr)} {X : Nat → Prop}
theorem Did.alloc {w w1 w' : World} {e : Ev} {ws : List Wr} {r : Ending} (t : Turn No w w1) (h : Did w1 w' Z hb L ps X e ws r) : Did w w' Z hb L ps X e ws r := by
  rcases h with ⟨a, b, c⟩ | ⟨a, b, c, d⟩
  · exact .inl ⟨a, b, t.trans c⟩
  · have := t.size
    exact .inr ⟨a, b, c.mono fun i hi => hi.elim .inl fun h => .inr ⟨by omega, h.2⟩, (t.mono fun _ _ h => h.elim).trans d⟩
theorem Did.returned {w w' : World} {e : Ev} {ws : List Wr} {r : Ending} (h : Did w w' Z hb L ps X e ws r) : ∃ c : Int, r = .returned (.int .i64 c) := by
  rcases h with ⟨a, b, c⟩ | ⟨a, b, c, d⟩
  · exact ⟨_, b⟩
  · exact ⟨_, b⟩
end
set_option maxHeartbeats 1000000 in
theorem begin_any {w : World} {Z hb : Nat} {L : List Ev} {ps : List (List Wr)} {X : Nat → Prop} (h : Hs w Z hb L ps X) (hl : L.length < 65536) (hz : Z ≤ w.heap.size) (id : Int) (hid : In64 id) (o : Opx) (ws : List Wr) (hf : o.fit ws)
    (hrow : Row w o.A (wcs ws)) (hsep : ws ≠ [] → ∀ b a, o.A = some ⟨b, a, none⟩ → ¬ X b) :
    Calls Try.prog 11 #[.pointer (some ⟨hb, 0, none⟩), .int .i64 id, o.val] w fun r w' => Did w w' Z hb L ps X ⟨1, id, o, ans00⟩ ws r := by
  obtain ⟨ok, k, v, o, had, aft, A, len, cap⟩ := o
  have tn : Turn No w (w.alloc (.cells #[.int .u8 ok, .string k, .string v, .string o, .bool had, .bool aft, .slice A len cap] 29)) := (Turn.refl _ _).alloc _
  have C := add_any (h.no tn) hl (Nat.le_trans hz tn.size) ⟨1, id, ⟨ok, k, v, o, had, aft, A, len, cap⟩, ans00⟩ ws (.mk' hid hf ans00_fit) (hrow.turn tn fun _ _ _ h => h) hsep
  have C' := Lib.hid C
  clear C h hz hid hf hrow hsep hl
  go_enter Try.func11, Try.ntmps11
  go_wp2_with (go_at_call 29; refine C'.out.mono ?_; rintro e w2 hd; obtain ⟨c, rfl⟩ := hd.returned; have hd' := Lib.hid (hd.alloc tn); clear hd)
  go_ret
  exact hd'.out
set_option maxHeartbeats 1000000 in
theorem mark_any {w : World} {Z hb : Nat} {L : List Ev} {ps : List (List Wr)} {X : Nat → Prop} (h : Hs w Z hb L ps X) (hl : L.length < 65536) (hz : Z ≤ w.heap.size) (id : Int) (hid : In64 id) (a : Ans) (hf : a.fit) :
    Calls Try.prog 12 #[.pointer (some ⟨hb, 0, none⟩), .int .i64 id, a.val] w fun r w' => Did w w' Z hb L ps X ⟨2, id, op00, a⟩ [] r := by
  obtain ⟨code, found, ak, av⟩ := a
  have tn : Turn No w (w.alloc (.cells #[.int .i64 code, .bool found, .string ak, .string av] 32)) := (Turn.refl _ _).alloc _
  have C := add_any (h.no tn) hl (Nat.le_trans hz tn.size) ⟨2, id, op00, ⟨code, found, ak, av⟩⟩ [] (.mk' hid op00_fit hf) (Row.nil _ _) (fun _ b o e => by cases e)
  have C' := Lib.hid C
  clear C h hz hid hf hl
  go_enter Try.func12, Try.ntmps12
  go_wp2_with (go_at_call 29; refine C'.out.mono ?_; rintro e w2 hd; obtain ⟨c, rfl⟩ := hd.returned; have hd' := Lib.hid (hd.alloc tn); clear hd)
  go_ret
  exact hd'.out
set_option maxHeartbeats 1000000 in
theorem end_any {w : World} {Z hb : Nat} {L : List Ev} {ps : List (List Wr)} {X : Nat → Prop} (h : Hs w Z hb L ps X) (hl : L.length < 65536) (hz : Z ≤ w.heap.size) (id : Int) (hid : In64 id) :
    Calls Try.prog 13 #[.pointer (some ⟨hb, 0, none⟩), .int .i64 id] w fun r w' => Did w w' Z hb L ps X ⟨3, id, op00, (kn L id).an⟩ [] r := by
  have C := add_any h hl hz ⟨3, id, op00, (kn L id).an⟩ [] (.mk' hid op00_fit (h.known id)) (Row.nil _ _) (fun _ b o e => by cases e)
  obtain ⟨l, A, cap, m, rfl, ht, hx⟩ := h
  have q := ht.mp.look ht.right id hid
  have c1 := ht.at_.cell 1
  simp only [List.getElem?_toArray, List.getElem?_cons_zero, List.getElem?_cons_succ] at c1
  rw [kn_pl] at C ⊢
  generalize kn l id = K at q C ⊢
  obtain ⟨last, code, found, ak, av⟩ := K
  simp only [Kn.val] at q
  have C' := Lib.hid C
  clear C hz hid hl ht hx
  have qf : ∀ W, (Instr.field 62 (.agg #[.int .u8 last, .int .i64 code, .bool found, .string ak, .string av]) 1).run Try.prog W = .ok (.agg #[.int .i64 code, .bool found, .string ak, .string av]) W := fun W => by rfl
  go_enter Try.func13, Try.ntmps13
  go_wp2_with (go_at_call 29; refine C'.out.mono ?_; rintro e w2 hd; obtain ⟨c, rfl⟩ := hd.returned; have hd' := Lib.hid hd; clear hd)
  go_ret
  exact hd'.out
/-- A nil history. -/
theorem begin_nil (id : Int) (o : Opx) (w : World) : Calls Try.prog 11 #[.pointer none, .int .i64 id, o.val] w fun r w' => r = .returned (.int .i64 2) ∧ Turn No w w' := by
  obtain ⟨ok, k, v, o, had, aft, A, len, cap⟩ := o
  have C := fun W => add_nil ⟨1, id, ⟨ok, k, v, o, had, aft, A, len, cap⟩, ans00⟩ W
  have C' := Lib.hid C
  clear C
  go_enter Try.func11, Try.ntmps11
  go_wp2_with (go_at_call 29; refine (C'.out _).mono ?_; rintro e w2 ⟨rfl, ht⟩; replace ht := Lib.hid ht)
  go_ret
  exact ⟨rfl, ((Turn.refl _ _).alloc _).trans ht.out⟩
theorem mark_nil (id : Int) (a : Ans) (w : World) : Calls Try.prog 12 #[.pointer none, .int .i64 id, a.val] w fun r w' => r = .returned (.int .i64 2) ∧ Turn No w w' := by
  obtain ⟨code, found, ak, av⟩ := a
  have C := fun W => add_nil ⟨2, id, op00, ⟨code, found, ak, av⟩⟩ W
  have C' := Lib.hid C
  clear C
  go_enter Try.func12, Try.ntmps12
  go_wp2_with (go_at_call 29; refine (C'.out _).mono ?_; rintro e w2 ⟨rfl, ht⟩; replace ht := Lib.hid ht)
  go_ret
  exact ⟨rfl, ((Turn.refl _ _).alloc _).trans ht.out⟩
theorem end_nil (id : Int) (w : World) : Calls Try.prog 13 #[.pointer none, .int .i64 id] w fun r w' => r = .returned (.int .i64 2) ∧ Turn No w w' := by
  go_enter Try.func13, Try.ntmps13
  go_wp2_with fail
  go_ret
  exact ⟨rfl, Turn.refl _ _⟩
end Go.Proofs.Ythopiamiipmobaa
