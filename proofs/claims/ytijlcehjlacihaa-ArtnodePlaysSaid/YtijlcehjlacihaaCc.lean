/-
  Builtins whose run is known; splices.
-/
import Derived.Test.YtijlcehjlacihaaBas
import Derived.Laws.CopyOwn
import Derived.Lib.AppendZerosOnto
import Derived.Lib.Overlaps
import Derived.Laws.AppendOwn
import Derived.Laws.OwnMore
namespace Go.Proofs.Ytijlcehjlacihaa
open Go.RowKit Go.Lib
set_option linter.unusedVariables false
set_option maxRecDepth 20000
set_option linter.unusedSimpArgs false

/-- A builtin's call whose run is known; a structure, so that it is matched by its words alone. -/
structure BRun2 (b : Builtin) (ts : Array TypeId) (ty : TypeId) (vs vx r : Value) (w w' : World) : Prop where
  out : ∀ cs, (builtin b ts ty cs #[vs, vx]).run Try.prog w = .ok (.value r) w'
structure BRun1 (b : Builtin) (ts : Array TypeId) (ty : TypeId) (vs r : Value) (w w' : World) : Prop where
  out : ∀ cs, (builtin b ts ty cs #[vs]).run Try.prog w = .ok (.value r) w'
theorem step_brun2 {w w' : World} {ops : Array Oper} {o : Oper} {a : Act} {K : Act → World → Prop} {Q : Exit → Act → World → Prop} {E : Prop} (hgd : o.guard = none) (s x : Operand) (b : Builtin) (ts : Array TypeId)
    (ho : o.op = .call { callee := .builtin b, args := #[s, x], argTypes := ts }) (vs vx r : Value) (hs : a.eval s = vs) (hx : a.eval x = vx) (hrun : BRun2 b ts o.type vs vx r w w')
    (h : K (a.put o.dst r) w') : if Region.wanted o (yielded ops a.tmps) = true then Oper.wp Try.prog o a w K Q else E := by
  have hw : Region.wanted o (yielded ops a.tmps) = true := by simp [Region.wanted, hgd]
  rw [if_pos hw]
  unfold Oper.wp execOp
  simp only [ho, resolve, invoke, Sem.run_bind, Sem.run_pure, Result.andThen_ok, List.map_toArray, List.map_cons, List.map_nil, hs, hx, hrun.out]
  exact h
theorem wpList_brun2 {w w' : World} {ops : Array Oper} {rest : List Oper} {o : Oper} {a : Act} {Q : Exit → Act → World → Prop} (hgd : o.guard = none) (s x : Operand) (b : Builtin) (ts : Array TypeId)
    (ho : o.op = .call { callee := .builtin b, args := #[s, x], argTypes := ts }) (vs vx r : Value) (hs : a.eval s = vs) (hx : a.eval x = vx) (hrun : BRun2 b ts o.type vs vx r w w')
    (h : wpList Try.prog ops Q rest (a.put o.dst r) w') : wpList Try.prog ops Q (o :: rest) a w :=
  wpList_plain hgd fun K hK => by
    unfold Oper.wp execOp
    simp only [ho, resolve, invoke, Sem.run_bind, Sem.run_pure, Result.andThen_ok, List.map_toArray, List.map_cons, List.map_nil, hs, hx, hrun.out]
    exact hK _ _ h
theorem wpList_brun1 {w w' : World} {ops : Array Oper} {rest : List Oper} {o : Oper} {a : Act} {Q : Exit → Act → World → Prop} (hgd : o.guard = none) (s : Operand) (b : Builtin) (ts : Array TypeId)
    (ho : o.op = .call { callee := .builtin b, args := #[s], argTypes := ts }) (vs r : Value) (hs : a.eval s = vs) (hrun : BRun1 b ts o.type vs r w w')
    (h : wpList Try.prog ops Q rest (a.put o.dst r) w') : wpList Try.prog ops Q (o :: rest) a w :=
  wpList_plain hgd fun K hK => by
    unfold Oper.wp execOp
    simp only [ho, resolve, invoke, Sem.run_bind, Sem.run_pure, Result.andThen_ok, List.map_toArray, List.map_cons, List.map_nil, hs, hrun.out]
    exact hK _ _ h

theorem turn_setRow (w : World) (g : Nat) (cs : Array Value) : Turn (fun k => k = g) w (w.setRow g cs) :=
  ⟨rfl, rfl, rfl, by simp, fun k _ hk => setRow_other w g k cs hk⟩
theorem add_lit0 (b o j : Nat) : (⟨b, o, none⟩ : Addr).add j = ⟨b, o + j, none⟩ := by
  unfold Addr.add
  split
  · rename_i h; subst h; rfl
  · rfl

theorem splice_head {L M : List Value} {a b k : Nat} {cs : List Value} (hL : L.take a = M) (hb : b = a + cs.length) (hl : a + cs.length ≤ L.length) : (splice L a cs).take b = M ++ cs := by
  unfold splice
  have hm : M.length = a := by rw [← hL, List.length_take]; omega
  rw [hL, ← List.append_assoc, List.take_left']
  simp [hm, hb]
theorem splice_keep {L M : List Value} {a off : Nat} {cs : List Value} (hL : L.take a = M) (ha : a ≤ off) (hl : off ≤ L.length) : (splice L off cs).take a = M := by
  unfold splice
  rw [List.take_append_of_le_length (by rw [List.length_take]; omega), List.take_take, Nat.min_eq_left ha, hL]

theorem and3 {a b c : Prop} (ha : a) (hb : b) (hc : c) : a ∧ b ∧ c := ⟨ha, hb, hc⟩
theorem At.shape {w : World} {g : Nat} {c : Array Value} {t : TypeId} {f : Nat × Nat} (h : At w g (.cells c t f)) : w.shape? g = some (t, c.size) := by
  unfold At at h
  simp [World.shape?, h]
end Go.Proofs.Ytijlcehjlacihaa
