/-
  Appends, as run equations: to rows of the program's own, whatever their elements.
-/
import Derived.Test.YthopiamiipmobaaEvs
import Derived.Test.YthopiamiipmobaaProg
import Derived.Maps.AppendAt
import Derived.Laws.AppendOwnNone
import Derived.Deep.RegionLaw
import Derived.Deep.Upon
namespace Go.Proofs.Ythopiamiipmobaa
open Go.RowKit Go.Lib
set_option linter.unusedVariables false

def No (_ : Nat) : Prop := False
theorem At.no {w w' : World} {g : Nat} {o : Obj} (h : At w g o) (t : Turn No w w') : At w' g o := h.turn t (fun h => h)
/-- An append whose run is known; a structure, so that it is matched by its words alone. -/
structure AppRun (t ty : TypeId) (vs vx r : Value) (w w' : World) : Prop where
  out : (Builtin.append_ #[t, t] ty #[vs, vx]).run Try.prog w = .ok r w'
theorem step_append_run {w w' : World} {ops : Array Oper} {o : Oper} {a : Act} {K : Act → World → Prop} {Q : Exit → Act → World → Prop} {E : Prop} (hgd : o.guard = none) (s x : Operand) (t : TypeId)
    (ho : o.op = .call { callee := .builtin .append, args := #[s, x], argTypes := #[t, t] }) (vs vx r : Value) (hs : a.eval s = vs) (hx : a.eval x = vx) (hrun : AppRun t o.type vs vx r w w')
    (h : K (a.put o.dst r) w') : if Region.wanted o (yielded ops a.tmps) = true then Oper.wp Try.prog o a w K Q else E := by
  have hw : Region.wanted o (yielded ops a.tmps) = true := by simp [Region.wanted, hgd]
  rw [if_pos hw]
  unfold Oper.wp execOp
  simp only [ho, resolve, invoke, builtin, Sem.run_bind, Sem.run_pure, Result.andThen_ok, List.map_toArray, List.map_cons, List.map_nil, hs, hx, hrun.out]
  exact h
theorem wpList_append_run {w w' : World} {ops : Array Oper} {rest : List Oper} {o : Oper} {a : Act} {Q : Exit → Act → World → Prop} (hgd : o.guard = none) (s x : Operand) (t : TypeId)
    (ho : o.op = .call { callee := .builtin .append, args := #[s, x], argTypes := #[t, t] }) (vs vx r : Value) (hs : a.eval s = vs) (hx : a.eval x = vx) (hrun : AppRun t o.type vs vx r w w')
    (h : wpList Try.prog ops Q rest (a.put o.dst r) w') : wpList Try.prog ops Q (o :: rest) a w :=
  wpList_plain hgd fun K hK => by
    unfold Oper.wp execOp
    simp only [ho, resolve, invoke, builtin, Sem.run_bind, Sem.run_pure, Result.andThen_ok, List.map_toArray, List.map_cons, List.map_nil, hs, hx, hrun.out]
    exact hK _ _ h

theorem turn_of_grown {w w' : World} (h : w.grownBy w' none) : Turn No w w' := (Turn.refl No w).grown h fun k hk => by cases hk


theorem info_parts {P : Program} {e : TypeId} {z : Value} {s b : Nat} (h : (P.info? e).map (fun i => (i.zero, i.size, i.bytes)) = some (some z, s, b)) : ∃ i, P.info? e = some i ∧ i.zero = some z ∧ i.size = s ∧ i.bytes = b := by
  cases hi : P.info? e with
  | none => rw [hi] at h; cases h
  | some i =>
    rw [hi] at h
    simp only [Option.map_some, Option.some.injEq, Prod.mk.injEq] at h
    exact ⟨i, rfl, h.1, h.2.1, h.2.2⟩
theorem own_form {w : World} {base : Nat} {e : TypeId} {size n : Nat} {v : Value} {xs : List Value} (h : w.ownsRow base e size v n xs) : ∃ A cap, v = .slice A n cap := by
  rcases h.2 with ⟨hv, hn⟩ | ⟨g, cap, cur, hv, _⟩
  · subst hn; exact ⟨none, 0, hv⟩
  · exact ⟨_, cap, hv⟩
theorem app_gen {t e size bytes : Nat} {z : Value} (ht : Try.prog.underlying t = some (.slice e)) (hinf : (Try.prog.info? e).map (fun i => (i.zero, i.size, i.bytes)) = some (some z, size, bytes)) (hzs : z.cells.size = size) (hsz : 0 < size) (hby : bytes ≤ 1000)
    {w : World} {Z : Nat} {v : Value} {n : Nat} {xs : List Value} (h : w.ownsRow Z e size v n xs) (a : Addr) (m c : Nat) (news : List Value) (hl : news.length = m * size) (hnews : ∀ j u, news[j]? = some u → w.cell? (a.add j) = some u)
    (h1 : ∀ u ∈ news, u.oneCell' = true) (hnm : n + m ≤ 1000000) (hz : Z ≤ w.heap.size) (ty : TypeId) :
    ∃ B cap w', AppRun t ty v (.slice (some a) m c) (.slice B (n + m) cap) w w' ∧ w'.ownsRow Z e size (.slice B (n + m) cap) (n + m) (xs ++ news) ∧ Turn (fun i => v.ownBlock = some i) w w' ∧
      ((Value.slice B (n + m) cap).ownBlock = v.ownBlock ∨ (Value.slice B (n + m) cap).ownBlock = some w.heap.size) := by
  obtain ⟨i0, hi, hz0, hz1, hz2⟩ := info_parts hinf
  obtain ⟨v', w', hr, h2, h3, _, h5⟩ := run_append_own_at (P := Try.prog) w Z t ty e i0 z size bytes ht hi hz0 hz1 hz2 hzs hsz v n xs h a m c news hl hnews h1 (by unfold maxLen; omega)
    (Nat.le_trans (Nat.mul_le_mul hnm hby) (by decide)) hz
  obtain ⟨B, cap, rfl⟩ := own_form h2
  exact ⟨B, cap, w', ⟨hr⟩, h2, (Turn.refl _ w).grown h3 (fun k hk => Or.inl hk), h5⟩
theorem info53 : (Try.prog.info? 53).map (fun i => (i.zero, i.size, i.bytes)) = some (some (.agg #[.string ⟨#[]⟩, .string ⟨#[]⟩, .bool false]), 3, 40) := by kernel_rfl
theorem info34 : (Try.prog.info? 34).map (fun i => (i.zero, i.size, i.bytes)) = some (some (.agg #[.int .u8 0, .int .i64 0, .int .u8 0, .string ⟨#[]⟩, .string ⟨#[]⟩, .string ⟨#[]⟩, .bool false, .bool false, .slice none 0 0, .int .i64 0, .bool false, .string ⟨#[]⟩, .string ⟨#[]⟩]), 13, 152) := by kernel_rfl
theorem info3 : (Try.prog.info? 3).map (fun i => (i.zero, i.size, i.bytes)) = some (some (.int .i64 0), 1, 8) := by kernel_rfl

theorem one_wcs (ws : List Wr) : ∀ u ∈ wcs ws, u.oneCell' = true := by
  intro u hu
  obtain ⟨x, _, hx⟩ := List.mem_flatMap.1 hu
  simp only [Wr.cs, List.mem_cons, List.not_mem_nil, or_false] at hx
  rcases hx with rfl | rfl | rfl <;> rfl
theorem one_ev (e : Ev) : ∀ u ∈ e.cs, u.oneCell' = true := by
  intro u hx
  simp only [Ev.cs, Opx.cs, Ans.cs, List.cons_append, List.nil_append, List.mem_cons, List.not_mem_nil, or_false] at hx
  rcases hx with rfl | rfl | rfl | rfl | rfl | rfl | rfl | rfl | rfl | rfl | rfl | rfl | rfl <;> rfl

/-- append([]Write(nil), row...): a row of its own. -/
theorem app_writes (w : World) (A : Option Addr) (len cap : Nat) (xs : List Value) (hr : Row w A xs) (hl : xs.length = len * 3) (hlen : len ≤ 100000) (h1 : ∀ u ∈ xs, u.oneCell' = true) (ty : TypeId) :
    ∃ B c w', AppRun 27 ty (.slice none 0 0) (.slice A len cap) (.slice B len c) w w' ∧ w'.ownsRow w.heap.size 53 3 (.slice B len c) len xs ∧ Turn No w w' := by
  cases A with
  | none =>
    have h0 : len = 0 := by
      rcases Nat.eq_zero_or_pos len with h | h
      · exact h
      · have : 0 < xs.length := by omega
        obtain ⟨b, o, hA, _⟩ := hr 0 xs[0] (List.getElem?_eq_getElem this)
        cases hA
    subst h0
    have hx : xs = [] := List.eq_nil_of_length_eq_zero (by omega)
    subst hx
    obtain ⟨i0, hi, _⟩ := info_parts info53
    exact ⟨none, 0, w, ⟨run_append_nothing (P := Try.prog) w 27 27 ty 53 i0 Try.underlying27 hi none 0 0 (Nat.le_refl _) _ (Src.ofNil w Try.underlying27 cap)⟩, World.ownsRow_nil _ _ _ _, Turn.refl _ _⟩
  | some a =>
    have hn : ∀ j u, xs[j]? = some u → w.cell? (a.add j) = some u := by
      intro j u hj
      obtain ⟨b, o, hA, _, hc⟩ := hr j u hj
      injection hA with hA
      subst hA
      rwa [Addr.add_lit]
    obtain ⟨B, c, w', q, ho, ht, _⟩ := app_gen Try.underlying27 info53 rfl (by decide) (by decide) (World.ownsRow_nil w w.heap.size 53 3) a len cap xs hl hn h1 (by omega) (Nat.le_refl _) ty
    rw [Nat.zero_add] at q ho
    exact ⟨B, c, w', q, by simpa using ho, ht.mono fun k _ h => by cases h⟩
end Go.Proofs.Ythopiamiipmobaa
