/-
  State: the two results' boxes, and the return.
-/
import Derived.Test.YthopiamiipmobaaWAhead
namespace Go.Proofs.Ythopiamiipmobaa
open Go.RowKit Go.Lib
set_option linter.unusedVariables false
set_option linter.unusedSimpArgs false

theorem results_cct {P : Program} {fn : Func} {p q u : Tmp} {ty ty' : TypeId} (h : fn.results = #[.cell p ty, .cell q ty', .tmp u]) (tmps : Array Value) (w : World) (g g' : Nat) (t t' : TypeId) (cs cs' : Array Value) (fr fr' : Nat × Nat) (d d' : TypeDesc)
    (hp : tmps.getD p undef = .pointer (some ⟨g, 0, none⟩)) (hg : w.heap[g]? = some (.cells cs t fr)) (hu : P.underlying ty = some d) (hd : (match d with | .struct _ | .array _ _ => true | _ => false) = true) (hi : (P.info? ty).map (·.size) = some cs.size)
    (hp' : tmps.getD q undef = .pointer (some ⟨g', 0, none⟩)) (hg' : w.heap[g']? = some (.cells cs' t' fr')) (hu' : P.underlying ty' = some d') (hd' : (match d' with | .struct _ | .array _ _ => true | _ => false) = true) (hi' : (P.info? ty').map (·.size) = some cs'.size) :
    (results fn tmps).run P w = .ok (.tuple #[.agg cs, .agg cs', tmps.getD u undef]) w := by
  have hp1 : tmps[p]?.getD undef = .pointer (some ⟨g, 0, none⟩) := by simpa using hp
  have hp2 : tmps[q]?.getD undef = .pointer (some ⟨g', 0, none⟩) := by simpa using hp'
  simp [results, h, hp1, hp2, asAddr, run_loadVar_row w g t ty cs fr d hg hu hd hi, run_loadVar_row w g' t' ty' cs' fr' d' hg' hu' hd' hi', Sem.run_bind, Result.andThen]

def Opx.pure (o : Opx) : Opx := ⟨o.kind, o.k, o.v, o.o, o.had, o.aft, none, o.len, 0⟩
/-- The boxes of State's results. -/
structure Sb (w wr : World) (g4 g5 : Nat) (o : Opx) (ws : List Wr) (a : Ans) : Prop where
  tu : Turn No w wr
  o4 : w.heap.size ≤ g4
  o5 : w.heap.size ≤ g5
  b4 : At wr g4 (.cells o.cs.toArray 29 (0, 0))
  b5 : At wr g5 (.cells a.cs.toArray 32 (0, 0))
  row : wr.ownsRow w.heap.size 53 3 (.slice o.A o.len o.cap) o.len (wcs ws)
section
variable {w wr w2 : World} {g4 g5 : Nat} {o o2 : Opx} {ws ws2 : List Wr} {a a2 : Ans}
theorem Sb.no (h : Sb w wr g4 g5 o ws a) (t : Turn No wr w2) : Sb w w2 g4 g5 o ws a := ⟨h.tu.trans t, h.o4, h.o5, h.b4.no t, h.b5.no t, own_grown h.row t fun _ _ h => h⟩
theorem Sb.ne (h : Sb w wr g4 g5 o ws a) : g5 ≠ g4 := h.b5.ne h.b4 (cells_ne (by decide))
theorem Sb.put4 (h : Sb w wr g4 g5 o ws a) (t : Turn (· = g4) wr w2) (hb : At w2 g4 (.cells o2.cs.toArray 29 (0, 0))) (hr : wr.ownsRow w.heap.size 53 3 (.slice o2.A o2.len o2.cap) o2.len (wcs ws2)) : Sb w w2 g4 g5 o2 ws2 a :=
  ⟨h.tu.then t fun i hi e => by have := h.o4; omega, h.o4, h.o5, hb, h.b5.turn t h.ne, own_grown hr t fun k hk e => by
    subst e
    rw [own_ablk] at hk
    obtain ⟨_, cur, h3⟩ := own_at hr hk
    exact h.b4.ne h3 (cells_ne (by decide)) rfl⟩
theorem Sb.put5 (h : Sb w wr g4 g5 o ws a) (t : Turn (· = g5) wr w2) (hb : At w2 g5 (.cells a2.cs.toArray 32 (0, 0))) : Sb w w2 g4 g5 o ws a2 :=
  ⟨h.tu.then t fun i hi e => by have := h.o5; omega, h.o4, h.o5, h.b4.turn t h.ne.symm, hb, own_grown h.row t fun k hk e => by
    subst e
    rw [own_ablk] at hk
    obtain ⟨_, cur, h3⟩ := own_at h.row hk
    exact h.b5.ne h3 (cells_ne (by decide)) rfl⟩
theorem Sb.same4 (h : Sb w wr g4 g5 o ws a) (i : Nat) (u : Value) (hu : o.cs[i]? = some u) : Sb w (wr.setCell ⟨g4, i, none⟩ u) g4 g5 o ws a :=
  h.put4 (set_turn wr g4 i u) (At.set_same h.b4 i u (by simpa using hu)) h.row
theorem Sb.same5 (h : Sb w wr g4 g5 o ws a) (i : Nat) (u : Value) (hu : a.cs[i]? = some u) : Sb w (wr.setCell ⟨g5, i, none⟩ u) g4 g5 o ws a :=
  h.put5 (set_turn wr g5 i u) (At.set_same h.b5 i u (by simpa using hu))
theorem cputs7 {c0 c1 c2 c3 c4 c5 c6 v0 v1 v2 v3 v4 v5 v6 : Value} : cputs #[c0, c1, c2, c3, c4, c5, c6] 0 [v0, v1, v2, v3, v4, v5, v6] = #[v0, v1, v2, v3, v4, v5, v6] := by simp [cputs]
theorem cputs4 {c0 c1 c2 c3 v0 v1 v2 v3 : Value} : cputs #[c0, c1, c2, c3] 0 [v0, v1, v2, v3] = #[v0, v1, v2, v3] := by simp [cputs]
theorem Sb.set4 (h : Sb w wr g4 g5 o ws a) (hr : wr.ownsRow w.heap.size 53 3 (.slice o2.A o2.len o2.cap) o2.len (wcs ws2)) : Sb w (puts wr g4 0 o2.cs) g4 g5 o2 ws2 a :=
  h.put4 (turn_puts g4 o2.cs 0 wr) (by have := At.puts o2.cs 0 h.b4; rwa [show cputs o.cs.toArray 0 o2.cs = o2.cs.toArray from cputs7] at this) hr
theorem Sb.set5 (h : Sb w wr g4 g5 o ws a) : Sb w (puts wr g5 0 a2.cs) g4 g5 o ws a2 :=
  h.put5 (turn_puts g5 a2.cs 0 wr) (by have := At.puts a2.cs 0 h.b5; rwa [show cputs a.cs.toArray 0 a2.cs = a2.cs.toArray from cputs4] at this)
theorem Sb.there4 (h : Sb w wr g4 g5 o ws a) : wr.there g4 0 7 := fun j hj => by
  rw [Nat.zero_add, h.b4.cell]
  exact ⟨by rw [Array.getElem?_eq_getElem (by simpa [Opx.cs] using hj)]; rfl, h.b4.thawed j⟩
theorem Sb.there5 (h : Sb w wr g4 g5 o ws a) : wr.there g5 0 4 := fun j hj => by
  rw [Nat.zero_add, h.b5.cell]
  exact ⟨by rw [Array.getElem?_eq_getElem (by simpa [Ans.cs] using hj)]; rfl, h.b5.thawed j⟩
end
section
variable {w wr w2 : World} {g4 g5 : Nat} {ws : List Wr} {ok : Int} {k v o : ByteArray} {had aft : Bool} {B : Option Addr} {len c : Nat} {code : Int} {found : Bool} {ak av : ByteArray}
theorem Sb.S (h : Sb w wr g4 g5 ⟨ok, k, v, o, had, aft, B, len, c⟩ ws ⟨code, found, ak, av⟩) : wr.cell? ⟨g4, 0, none⟩ = some (.int .u8 ok) ∧ wr.cell? ⟨g4, 1, none⟩ = some (.string k) ∧ wr.cell? ⟨g4, 2, none⟩ = some (.string v) ∧ wr.cell? ⟨g4, 3, none⟩ = some (.string o) ∧ wr.cell? ⟨g4, 4, none⟩ = some (.bool had) ∧ wr.cell? ⟨g4, 5, none⟩ = some (.bool aft) ∧ wr.cell? ⟨g4, 6, none⟩ = some (.slice B len c) ∧ wr.cell? ⟨g5, 0, none⟩ = some (.int .i64 code) ∧ wr.cell? ⟨g5, 1, none⟩ = some (.bool found) ∧ wr.cell? ⟨g5, 2, none⟩ = some (.string ak) ∧ wr.cell? ⟨g5, 3, none⟩ = some (.string av) := by
  have b4 := h.b4.cell
  have b5 := h.b5.cell
  exact ⟨b4 0, b4 1, b4 2, b4 3, b4 4, b4 5, b4 6, b5 0, b5 1, b5 2, b5 3⟩
theorem Sb.all4 (h : Sb w wr g4 g5 ⟨ok, k, v, o, had, aft, B, len, c⟩ ws ⟨code, found, ak, av⟩) : Sb w (((((((wr.setCell ⟨g4, 0, none⟩ (.int .u8 ok)).setCell ⟨g4, 1, none⟩ (.string k)).setCell ⟨g4, 2, none⟩ (.string v)).setCell ⟨g4, 3, none⟩ (.string o)).setCell ⟨g4, 4, none⟩ (.bool had)).setCell ⟨g4, 5, none⟩ (.bool aft)).setCell ⟨g4, 6, none⟩ (.slice B len c)) g4 g5 ⟨ok, k, v, o, had, aft, B, len, c⟩ ws ⟨code, found, ak, av⟩ :=
  ((((((h.same4 0 _ rfl).same4 1 _ rfl).same4 2 _ rfl).same4 3 _ rfl).same4 4 _ rfl).same4 5 _ rfl).same4 6 _ rfl
theorem Sb.all5 (h : Sb w wr g4 g5 ⟨ok, k, v, o, had, aft, B, len, c⟩ ws ⟨code, found, ak, av⟩) : Sb w ((((wr.setCell ⟨g5, 0, none⟩ (.int .i64 code)).setCell ⟨g5, 1, none⟩ (.bool found)).setCell ⟨g5, 2, none⟩ (.string ak)).setCell ⟨g5, 3, none⟩ (.string av)) g4 g5 ⟨ok, k, v, o, had, aft, B, len, c⟩ ws ⟨code, found, ak, av⟩ :=
  (((h.same5 0 _ rfl).same5 1 _ rfl).same5 2 _ rfl).same5 3 _ rfl
end
end Go.Proofs.Ythopiamiipmobaa
