/-
  What the law's own helpers least and two come to.
-/
import Derived.Test.YtbdfbgkfhaiccaaDoorTwo
import Derived.Test.YtbdfbgkfhaiccaaDoorWArS
import Derived.Test.YtbdfbgkfhaiccaaDoorWArI
import Derived.Deep.AppendLies
namespace Go.Proofs.YtbdfbgkfhaiccaaDoor
open Go.RowKit Go.Maps
set_option linter.unusedVariables false

theorem zero3 (w : World) : (zeroValue 3).run Tryd.prog w = .ok (.int .i64 0) w := by kernel_rfl

theorem least_w (sb s : Nat) (w : World) (hs : s < 5000) (h1 : Hid (∀ x : Nat, x < s → (Instr.lookup 77 (.map (some sb)) (.int .i64 (x : Int)) false).run Tryd.prog w = .ok (.int .i64 1) w))
    (h2 : (Instr.lookup 77 (.map (some sb)) (.int .i64 (s : Int)) false).run Tryd.prog w = .ok (.int .i64 0) w) :
    Calls Tryd.prog 51 #[.map (some sb)] w fun e w' => e = .returned (.int .i64 (s : Int)) ∧ w = w' := by
  go_enter Tryd.func51, Tryd.ntmps51
  go_wp2_with fail
  go_loop [3] (fun k => ∃ j : Nat, j ≤ s ∧ k = .int .i64 j) (fun k => s - (intOf k).toNat)
  case atStart => exact ⟨0, Nat.zero_le _, rfl⟩
  case round =>
    obtain ⟨j, hj, rfl⟩ := hrel
    by_cases hlt : j < s
    · have hL := h1.out j hlt
      go_wp2_with fail
      go_round
      case rel => exact ⟨j + 1, by omega, by go_num⟩
      case measure => simp [intOf]; omega
    · obtain rfl : j = s := by omega
      go_wp2_with fail
      go_ret
      exact ⟨rfl, rfl⟩

theorem least_any {w : World} {sb ns s : Nat} {f : Int → Option Value} (h : IMap Tryd.prog 3 w sb f ns) (hs : s < 5000) (h1 : ∀ x : Nat, x < s → f (x : Int) = some (.int .i64 1)) (h2 : f (s : Int) = none) :
    Calls Tryd.prog 51 #[.map (some sb)] w fun e w' => e = .returned (.int .i64 (s : Int)) ∧ w = w' := by
  refine least_w sb s w hs (fun x hx => ?_) ?_
  · rw [h.look1 law3 Tryd.underlying3 Tryd.underlying77 (zero3 w) (wf64 (by omega) (by omega)), h1 x hx]; rfl
  · rw [h.look1 law3 Tryd.underlying3 Tryd.underlying77 (zero3 w) (wf64 (by omega) (by omega)), h2]; rfl
theorem least_quiet {w : World} {sb ns s : Nat} {f : Int → Option Value} (h : IMap Tryd.prog 3 w sb f ns) (hs : s < 5000) (h1 : ∀ x : Nat, x < s → f (x : Int) = some (.int .i64 1)) (h2 : f (s : Int) = none) (n : Nat) :
    Calls Tryd.prog 51 #[.map (some sb)] (w.drewN n) fun e w' => e = .returned (.int .i64 (s : Int)) ∧ ∃ m, w' = w.drewN m :=
  quiet_same (least_any (h.turn ((Turn.refl (fun _ => False) w).drewN n) (fun h => h)) hs h1 h2)

/-! the handles told -/
def flat (hs : List (Nat × Nat)) : List Value := hs.flatMap fun p => [.int .i64 (p.1 : Int), .int .u64 (p.2 : Int)]
theorem flat_len (hs : List (Nat × Nat)) : (flat hs).length = hs.length * 2 := by
  induction hs with
  | nil => rfl
  | cons p r ih => simp only [flat, List.flatMap_cons, List.length_append, List.length_cons, List.length_nil] at ih ⊢; omega
theorem flat_at : ∀ (hs : List (Nat × Nat)) (k : Nat) (p : Nat × Nat), hs[k]? = some p → (flat hs)[k * 2]? = some (.int .i64 (p.1 : Int)) ∧ (flat hs)[k * 2 + 1]? = some (.int .u64 (p.2 : Int))
  | [], k, p, h => by simp at h
  | q :: r, 0, p, h => by
    simp at h
    subst h
    exact ⟨rfl, rfl⟩
  | q :: r, k + 1, p, h => by
    have ih := flat_at r k p (by simpa using h)
    have e : flat (q :: r) = .int .i64 (q.1 : Int) :: .int .u64 (q.2 : Int) :: flat r := rfl
    rw [e, show (k + 1) * 2 = k * 2 + 2 by omega, show k * 2 + 2 + 1 = (k * 2 + 1) + 2 by omega]
    simpa using ih
theorem flat_snoc (hs : List (Nat × Nat)) (s g : Nat) : flat hs ++ [.int .i64 (s : Int), .int .u64 (g : Int)] = flat (hs ++ [(s, g)]) := by simp [flat]

/-- The row of the handles told. -/
def Told (w wr : World) (v : Value) (hs : List (Nat × Nat)) : Prop := wr.ownsRow w.heap.size 32 2 v hs.length (flat hs)

theorem Told.form {w wr : World} {v : Value} {hs : List (Nat × Nat)} (h : Told w wr v hs) : ∃ A cap, v = .slice A hs.length cap := by
  rcases h.2 with ⟨rfl, h0⟩ | ⟨g, cap, cur, rfl, _⟩
  · exact ⟨none, 0, by rw [h0]⟩
  · exact ⟨_, _, rfl⟩
theorem Told.at {w wr : World} {A : Option Addr} {m cap : Nat} {hs : List (Nat × Nat)} (h : Told w wr (.slice A m cap) hs) {k : Nat} {p : Nat × Nat} (hk : hs[k]? = some p) :
    ∃ g, A = some ⟨g, 0, none⟩ ∧ w.heap.size ≤ g ∧ g < wr.heap.size ∧ wr.cell? ⟨g, k * 2, none⟩ = some (.int .i64 (p.1 : Int)) ∧ wr.cell? ⟨g, k * 2 + 1, none⟩ = some (.int .u64 (p.2 : Int)) ∧ ∃ c, At wr g (.cells c 32 (0, 0)) := by
  have hkl : k < hs.length := (List.getElem?_eq_some_iff.1 hk).1
  obtain ⟨f1, f2⟩ := flat_at hs k p hk
  rcases h.2 with ⟨_, h0⟩ | ⟨g, cap', cur, hv, hb, hg, hle, _, hsz, htake⟩
  · omega
  · injection hv with hA
    refine ⟨g, hA, hb, At.lt hg, ?_, ?_, _, hg⟩
    · rw [At.cell (f := (0, 0)) hg, ← f1, ← htake]
      have : (cur.toList.take (hs.length * 2))[k * 2]? = cur.toList[k * 2]? := by rw [List.getElem?_take, if_pos (by omega)]
      rw [this]; simp
    · rw [At.cell (f := (0, 0)) hg, ← f2, ← htake]
      have : (cur.toList.take (hs.length * 2))[k * 2 + 1]? = cur.toList[k * 2 + 1]? := by rw [List.getElem?_take, if_pos (by omega)]
      rw [this]; simp
theorem Told.turn {X : Nat → Prop} {w wr wr' : World} {v : Value} {hs : List (Nat × Nat)} (h : Told w wr v hs) (t : Turn X wr wr') (hX : ∀ i c, At wr i (.cells c 32 (0, 0)) → w.heap.size ≤ i → v.ownBlock = some i → ¬ X i) : Told w wr' v hs := by
  refine ⟨h.1, ?_⟩
  rcases h.2 with h0 | ⟨g, cap', cur, hv, hb, hg, r⟩
  · exact Or.inl h0
  · exact Or.inr ⟨g, cap', cur, hv, hb, At.turn (w := wr) hg t (hX g cur hg hb (by rw [hv]; rfl)), r⟩
theorem Told.same {w wr wr' : World} {v : Value} {hs : List (Nat × Nat)} (h : Told w wr v hs) (t : Turn (fun _ => False) wr wr') : Told w wr' v hs := h.turn t (fun _ _ _ _ _ h => h)
theorem Told.own {w wr : World} {v : Value} {hs : List (Nat × Nat)} (h : Told w wr v hs) {i : Nat} (hi : v.ownBlock = some i) : (∃ c, At wr i (.cells c 32 (0, 0))) ∧ w.heap.size ≤ i ∧ i < wr.heap.size := by
  rcases h.2 with ⟨rfl, _⟩ | ⟨g, cap', cur, rfl, hb, hg, r⟩
  · cases hi
  · have : g = i := by simpa [Value.ownBlock] using hi
    subst this
    exact ⟨⟨_, hg⟩, hb, At.lt hg⟩
theorem Told.start (w wr : World) : Told w wr (.slice none 0 0) [] := ⟨rfl, Or.inl ⟨rfl, rfl⟩⟩

theorem info32 : (Tryd.prog.info? 32).map (fun i => (i.zero, i.size, i.bytes)) = some (some (.agg #[.int .i64 0, .int .u64 0]), 2, 16) := by kernel_rfl

/-- An append whose run is known, at the operation. -/
theorem wpList_append_run {P : Program} {w w' : World} {ops : Array Oper} {rest : List Oper} {o : Oper} {a : Act} {Q : Exit → Act → World → Prop} (hgd : o.guard = none) (s x : Operand) (t : TypeId)
    (ho : o.op = .call { callee := .builtin .append, args := #[s, x], argTypes := #[t, t] }) (vs vx r : Value) (hs : a.eval s = vs) (hx : a.eval x = vx) (hrun : (Builtin.append_ #[t, t] o.type #[vs, vx]).run P w = .ok r w')
    (h : wpList P ops Q rest (a.put o.dst r) w') : wpList P ops Q (o :: rest) a w :=
  wpList_plain hgd fun K hK => by
    unfold Oper.wp execOp
    simp only [ho, resolve, invoke, builtin, Sem.run_bind, Sem.run_pure, Result.andThen_ok, List.map_toArray, List.map_cons, List.map_nil, hs, hx, hrun]
    exact hK _ _ h

/-- 'told = append(told, h)', h in a row of its own. -/
theorem Told.append {w wr : World} {v : Value} {hs : List (Nat × Nat)} (h : Told w wr v hs) (s g B : Nat) (hB : At wr B (.cells #[.int .i64 (s : Int), .int .u64 (g : Int)] 32 (0, 0))) (hm : hs.length < 100000) (hw : w.heap.size ≤ wr.heap.size) (ty : TypeId) :
    ∃ A cap w', (Builtin.append_ #[44, 44] ty #[v, .slice (some ⟨B, 0, none⟩) 1 1]).run Tryd.prog wr = .ok (.slice A (hs.length + 1) cap) w' ∧ Told w w' (.slice A (hs.length + 1) cap) (hs ++ [(s, g)]) ∧ Turn (fun i => v.ownBlock = some i) wr w' := by
  obtain ⟨i0, hi, hz0, hz1, hz2⟩ := info_parts info32
  obtain ⟨g', cap, w', hr, h2, h3, _⟩ := run_append_lies (P := Tryd.prog) wr 44 ty w.heap.size 32 i0 _ 2 16 Tryd.underlying44 hi hz0 hz1 hz2 rfl (by omega) v hs.length (flat hs) h ⟨B, 0, none⟩ 1 1 [.int .i64 (s : Int), .int .u64 (g : Int)] rfl
    (fun j u hu => by
      rcases j with _ | _ | j
      · have := hB.cell 0
        simp at this hu
        subst hu
        exact this
      · have := hB.cell 1
        simp at this hu
        subst hu
        exact this
      · simp at hu)
    (fun u hu => by
      simp at hu
      rcases hu with rfl | rfl <;> rfl) (by omega) (by unfold maxLen; omega) (by omega) hw _ rfl
  refine ⟨_, _, w', hr, ?_, (Turn.refl _ wr).grown h3 (fun k hk => Or.inl hk)⟩
  unfold Told
  rw [List.length_append, ← flat_snoc]
  exact h2
end Go.Proofs.YtbdfbgkfhaiccaaDoor
