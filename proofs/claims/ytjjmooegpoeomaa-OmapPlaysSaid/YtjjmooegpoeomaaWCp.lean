/-
  append, copy, clear over rows of pairs of the program's own, as run equations.
-/
import Derived.Test.YtjjmooegpoeomaaWGet
import Derived.Laws.CopyOwn
import Derived.Laws.OwnMore
import Derived.Laws.AppendOwnNone
import Derived.Lib.AppendZerosOnto
import Derived.Lib.Overlaps
import Derived.Deep.RegionLaw
import Derived.Maps.AppendAt
namespace Go.Proofs.Ytjjmooegpoeomaa
open Go.RowKit Go.Lib
set_option linter.unusedVariables false

/-- A builtin's call whose run is known; a structure, so that it is matched by its words alone. -/
structure BRun2 (b : Builtin) (ts : Array TypeId) (ty : TypeId) (vs vx r : Value) (w w' : World) : Prop where
  out : ∀ cs, (builtin b ts ty cs #[vs, vx]).run Try.prog w = .ok (.value r) w'
structure BRun1 (b : Builtin) (ts : Array TypeId) (ty : TypeId) (vs r : Value) (w w' : World) : Prop where
  out : ∀ cs, (builtin b ts ty cs #[vs]).run Try.prog w = .ok (.value r) w'
theorem step_brun2 {w w' : World} {ops : Array Oper} {o : Oper} {a : Act} {K : Act → World → Prop} {Q : Exit → Act → World → Prop} {E : Prop} (hgd : o.guard = none) (s x : Operand) (b : Builtin) (ts : Array TypeId)
    (ho : o.op = .call { callee := .builtin b, args := #[s, x], argTypes := ts }) (vs vx r : Value) (hs : a.eval s = vs) (hx : a.eval x = vx) (hrun : BRun2 b ts o.type vs vx r w w')
    (h : K (a.put o.dst r) w') : if Region.wanted o (yielded ops a.tmps) = true then Oper.wp Try.prog o a w K Q else E := by
  have hw : Region.wanted o (yielded ops a.tmps) = true := by simp [Region.wanted, hgd]
  rw [if_pos hw]
  unfold Oper.wp execOp
  simp only [ho, resolve, invoke, Sem.run_bind, Sem.run_pure, Result.andThen_ok, List.map_toArray, List.map_cons, List.map_nil, hs, hx, hrun.out]
  exact h
theorem wpList_brun2 {w w' : World} {ops : Array Oper} {rest : List Oper} {o : Oper} {a : Act} {Q : Exit → Act → World → Prop} (hgd : o.guard = none) (s x : Operand) (b : Builtin) (ts : Array TypeId)
    (ho : o.op = .call { callee := .builtin b, args := #[s, x], argTypes := ts }) (vs vx r : Value) (hs : a.eval s = vs) (hx : a.eval x = vx) (hrun : BRun2 b ts o.type vs vx r w w')
    (h : wpList Try.prog ops Q rest (a.put o.dst r) w') : wpList Try.prog ops Q (o :: rest) a w :=
  wpList_plain hgd fun K hK => by
    unfold Oper.wp execOp
    simp only [ho, resolve, invoke, Sem.run_bind, Sem.run_pure, Result.andThen_ok, List.map_toArray, List.map_cons, List.map_nil, hs, hx, hrun.out]
    exact hK _ _ h
theorem wpList_brun1 {w w' : World} {ops : Array Oper} {rest : List Oper} {o : Oper} {a : Act} {Q : Exit → Act → World → Prop} (hgd : o.guard = none) (s : Operand) (b : Builtin) (ts : Array TypeId)
    (ho : o.op = .call { callee := .builtin b, args := #[s], argTypes := ts }) (vs r : Value) (hs : a.eval s = vs) (hrun : BRun1 b ts o.type vs r w w')
    (h : wpList Try.prog ops Q rest (a.put o.dst r) w') : wpList Try.prog ops Q (o :: rest) a w :=
  wpList_plain hgd fun K hK => by
    unfold Oper.wp execOp
    simp only [ho, resolve, invoke, Sem.run_bind, Sem.run_pure, Result.andThen_ok, List.map_toArray, List.map_cons, List.map_nil, hs, hrun.out]
    exact hK _ _ h

theorem turn_of_grown {w w' : World} (h : w.grownBy w' none) : Turn No w w' := (Turn.refl No w).grown h fun k hk => by cases hk
theorem info_parts {P : Program} {e : TypeId} {z : Value} {s b : Nat} (h : (P.info? e).map (fun i => (i.zero, i.size, i.bytes)) = some (some z, s, b)) : ∃ i, P.info? e = some i ∧ i.zero = some z ∧ i.size = s ∧ i.bytes = b := by
  cases hi : P.info? e with
  | none => rw [hi] at h; cases h
  | some i =>
    rw [hi] at h
    simp only [Option.map_some, Option.some.injEq, Prod.mk.injEq] at h
    exact ⟨i, rfl, h.1, h.2.1, h.2.2⟩
theorem own_form {w : World} {base : Nat} {e : TypeId} {size n : Nat} {v : Value} {xs : List Value} (h : w.ownsRow base e size v n xs) : ∃ A cap, v = .slice A n cap := by
  rcases h.2 with ⟨hv, hn⟩ | ⟨g, cap, cur, hv, _⟩
  · subst hn; exact ⟨none, 0, hv⟩
  · exact ⟨_, cap, hv⟩
abbrev pz : Value := .agg #[.string ⟨#[]⟩, .string ⟨#[]⟩]
theorem info50 : (Try.prog.info? 50).map (fun i => (i.zero, i.size, i.bytes)) = some (some pz, 2, 32) := by kernel_rfl
theorem info_size : (Try.prog.info? 50).map (·.size) = some 2 := by kernel_rfl
theorem one_pcs (l : List Pr) : ∀ u ∈ pcs l, u.oneCell' = true := by
  intro u hu
  obtain ⟨x, _, hx⟩ := List.mem_flatMap.1 hu
  simp only [Pr.cs, List.mem_cons, List.not_mem_nil, or_false] at hx
  rcases hx with rfl | rfl <;> rfl
/-- A block of pairs' cells: all of them, as a list. -/
def Blk (w : World) (g : Nat) (cur : List Value) : Prop := At w g (.cells cur.toArray 50 (0, 0))
theorem turn_setRow (w : World) (g : Nat) (cs : Array Value) : Turn (fun k => k = g) w (w.setRow g cs) :=
  ⟨rfl, rfl, rfl, by simp, fun k _ hk => setRow_other w g k cs hk⟩
theorem blk_setRow {w : World} {g : Nat} {cur : List Value} (h : Blk w g cur) (cs : List Value) : Blk (w.setRow g cs.toArray) g cs := setRow_heap w g _ _ 50 _ h
theorem add_lit0 (b o j : Nat) : (⟨b, o, none⟩ : Addr).add j = ⟨b, o + j, none⟩ := by
  unfold Addr.add
  split
  · rename_i h; subst h; rfl
  · rfl

/-- copy: into a block of pairs. -/
theorem run_cp {w : World} {g o dLen dCap sLen sCap : Nat} {cur : List Value} (hg : Blk w g cur) (sb so : Nat) (cs : List Value) (hn : cs.length = Nat.min sLen dLen * 2)
    (hsrc : ∀ j v, cs[j]? = some v → w.cell? ⟨sb, so + j, none⟩ = some v) (hfit : o + cs.length ≤ cur.length) (h1 : ∀ v ∈ cs, v.oneCell' = true) (ty : TypeId) :
    BRun2 .copy #[22, 22] ty (.slice (some ⟨g, o, none⟩) dLen dCap) (.slice (some ⟨sb, so, none⟩) sLen sCap) (goInt (Nat.min sLen dLen)) w (w.setRow g (splice cur o cs).toArray) := by
  have hl := run_loadCells_list (P := Try.prog) w ⟨sb, so, none⟩ cs (fun j v h => by rw [add_lit0]; exact hsrc j v h)
  have hst := run_storeCells_at Try.prog g o 50 cs 0 cur.toArray w hg (by simpa using hfit) h1
  obtain ⟨i, hi, _, hz1, _⟩ := info_parts info50
  refine ⟨fun q => ?_⟩
  simp [builtin, Builtin.copy_, run_underlying Try.underlying22, Builtin.lenOf, Builtin.firstCells, sizeOf, typeInfo, hi, hz1, ← hn, hl, hst, splice]
/-- clear: the last n pairs from place o on. -/
theorem run_cl {w : World} {g o n cap : Nat} {cur : List Value} (hg : Blk w g cur) (hfit : o + n * 2 ≤ cur.length) (h0 : 0 < n) (ty : TypeId) :
    ∃ cs : List Value, cs.length = n * 2 ∧ BRun1 .clear #[22] ty (.slice (some ⟨g, o, none⟩) n cap) (.tuple #[]) w (w.setRow g (splice cur o cs).toArray) := by
  have hlen : (Builtin.zeroCells pz.cells n).toList.length = n * 2 := by simp [Builtin.zeroCells, Value.cells]
  have hst := run_storeCells_at Try.prog g o 50 (Builtin.zeroCells pz.cells n).toList 0 cur.toArray w hg (by rw [hlen]; simpa using hfit) (by
    intro v hv
    simp only [Builtin.zeroCells, Value.cells] at hv
    have hv := Array.mem_toList_iff.1 hv
    simp at hv
    obtain ⟨a, _, rfl⟩ := hv
    have : a % 2 = 0 ∨ a % 2 = 1 := by omega
    rcases this with h | h <;> rw [h] <;> rfl)
  obtain ⟨i, hi, hz, hz1, _⟩ := info_parts info50
  refine ⟨(Builtin.zeroCells pz.cells n).toList, hlen, ⟨fun q => ?_⟩⟩
  obtain ⟨m, rfl⟩ : ∃ m, n = m + 1 := ⟨n - 1, by omega⟩
  simp [builtin, Builtin.clear_, run_underlying Try.underlying22, zeroValue, typeInfo, hi, hz, splice] at hst ⊢
  simp [hst]
theorem run_cl0 (w : World) (A : Option Addr) (cap : Nat) (ty : TypeId) : BRun1 .clear #[22] ty (.slice A 0 cap) (.tuple #[]) w w := by
  refine ⟨fun q => ?_⟩
  cases A <;> simp [builtin, Builtin.clear_, run_underlying Try.underlying22]
end Go.Proofs.Ytjjmooegpoeomaa
