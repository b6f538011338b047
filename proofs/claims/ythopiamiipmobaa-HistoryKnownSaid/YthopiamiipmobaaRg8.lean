/-
  HistoryKnown: the region of its rows, whose order is open.
-/
import Derived.Test.YthopiamiipmobaaAnyTab
import Derived.Test.YthopiamiipmobaaKnA
import Derived.Great.BuildSlice
import Derived.Laws.MakeOwn
import Derived.Deep.MidRow
namespace Go.Proofs.Ythopiamiipmobaa
open Go.RowKit Go.Lib
set_option linter.unusedVariables false
set_option linter.unusedSimpArgs false

def kz (k i : Int) : Ev := ⟨k, i, op00, ans00⟩
def kr0 : List Ev := [kz 1 1, kz 3 1]
def kr1 : List Ev := [kz 2 1]
def kr2 : List Ev := [kz 1 1, kz 1 1]
def kr3 : List Ev := [kz 1 0]
def kr4 : List Ev := [kz 0 1]
def kr5 : List Ev := [⟨1, 1, op00, an1⟩]
def kr6 : List Ev := [kz 1 1, ⟨2, 1, opk, ans00⟩]
def kr7 : List Ev := [ke1, ke2, kz 3 1]
def k8c (b0 b1 b2 b3 b4 b5 b6 b7 : Nat) : Array Value := #[.slice (some ⟨b0, 0, none⟩) 2 2, .int .i64 1, .slice (some ⟨b1, 0, none⟩) 1 1, .int .i64 0, .slice (some ⟨b2, 0, none⟩) 2 2, .int .i64 1, .slice (some ⟨b3, 0, none⟩) 1 1, .int .i64 0, .slice (some ⟨b4, 0, none⟩) 1 1, .int .i64 0, .slice (some ⟨b5, 0, none⟩) 1 1, .int .i64 0, .slice (some ⟨b6, 0, none⟩) 2 2, .int .i64 1, .slice (some ⟨b7, 0, none⟩) 3 3, .int .i64 2]
/-- The two boxes and the row. -/
structure Kb (w : World) (g1 g2 lb : Nat) : Prop where
  b1 : At w g1 (.cells #[.int .u8 1, .string ⟨#[107]⟩, .string ⟨#[]⟩, .string ⟨#[]⟩, .bool false, .bool false, .slice none 0 0] 29 (0, 0))
  b2 : At w g2 (.cells #[.int .i64 0, .bool true, .string ⟨#[]⟩, .string ⟨#[49]⟩] 32 (0, 0))
  row : At w lb (.cells (ecs KL).toArray 34 (0, 0))
theorem Kb.no {w w2 : World} {g1 g2 lb : Nat} (h : Kb w g1 g2 lb) (t : Turn No w w2) : Kb w2 g1 g2 lb := ⟨h.b1.no t, h.b2.no t, h.row.no t⟩
theorem Kb.rng {w : World} {g1 g2 lb : Nat} (h : Kb w g1 g2 lb) {j : Nat} {e : Ev} (hj : KL[j]? = some e) : w.rangeAt lb (j * 13) e.cs := fun i v hv => by
  rw [h.row.cell]
  simp only [List.getElem?_toArray]
  have hi : i < 13 := (List.getElem?_eq_some_iff.1 hv).1
  rw [ecs_at hj i hi, hv]
def regOf (id : Nat) : Code → Option (Array Oper)
  | .region i ops _ => if Nat.beq i id then some ops else none
  | .seq a b => match regOf id a with | some x => some x | none => regOf id b
  | _ => none
/-- Operation i of the region. -/
def Is8 (i : Nat) (o : Oper) : Prop := (((Try.f7.body).bind (regOf 8)).getD #[]).toList[i]? = some o
def cv8 (lb : Nat) : List Value := [
  .agg #[.int .u8 1, .int .i64 1, .int .u8 0, .string ⟨#[]⟩, .string ⟨#[]⟩, .string ⟨#[]⟩, .bool false, .bool false, .slice none 0 0, .int .i64 0, .bool false, .string ⟨#[]⟩, .string ⟨#[]⟩],
  .agg #[.int .u8 3, .int .i64 1, .int .u8 0, .string ⟨#[]⟩, .string ⟨#[]⟩, .string ⟨#[]⟩, .bool false, .bool false, .slice none 0 0, .int .i64 0, .bool false, .string ⟨#[]⟩, .string ⟨#[]⟩],
  undef,
  undef,
  .agg #[.int .u8 2, .int .i64 1, .int .u8 0, .string ⟨#[]⟩, .string ⟨#[]⟩, .string ⟨#[]⟩, .bool false, .bool false, .slice none 0 0, .int .i64 0, .bool false, .string ⟨#[]⟩, .string ⟨#[]⟩],
  undef,
  undef,
  .agg #[.int .u8 1, .int .i64 1, .int .u8 0, .string ⟨#[]⟩, .string ⟨#[]⟩, .string ⟨#[]⟩, .bool false, .bool false, .slice none 0 0, .int .i64 0, .bool false, .string ⟨#[]⟩, .string ⟨#[]⟩],
  .agg #[.int .u8 1, .int .i64 1, .int .u8 0, .string ⟨#[]⟩, .string ⟨#[]⟩, .string ⟨#[]⟩, .bool false, .bool false, .slice none 0 0, .int .i64 0, .bool false, .string ⟨#[]⟩, .string ⟨#[]⟩],
  undef,
  undef,
  .agg #[.int .u8 1, .int .i64 0, .int .u8 0, .string ⟨#[]⟩, .string ⟨#[]⟩, .string ⟨#[]⟩, .bool false, .bool false, .slice none 0 0, .int .i64 0, .bool false, .string ⟨#[]⟩, .string ⟨#[]⟩],
  undef,
  undef,
  .agg #[.int .u8 0, .int .i64 1, .int .u8 0, .string ⟨#[]⟩, .string ⟨#[]⟩, .string ⟨#[]⟩, .bool false, .bool false, .slice none 0 0, .int .i64 0, .bool false, .string ⟨#[]⟩, .string ⟨#[]⟩],
  undef,
  undef,
  .agg #[.int .i64 0, .bool true, .string ⟨#[]⟩, .string ⟨#[49]⟩],
  .agg #[.int .u8 1, .int .i64 1, .int .u8 0, .string ⟨#[]⟩, .string ⟨#[]⟩, .string ⟨#[]⟩, .bool false, .bool false, .slice none 0 0, .int .i64 0, .bool true, .string ⟨#[]⟩, .string ⟨#[49]⟩],
  undef,
  undef,
  .agg #[.int .u8 1, .int .i64 1, .int .u8 0, .string ⟨#[]⟩, .string ⟨#[]⟩, .string ⟨#[]⟩, .bool false, .bool false, .slice none 0 0, .int .i64 0, .bool false, .string ⟨#[]⟩, .string ⟨#[]⟩],
  .agg #[.int .u8 1, .string ⟨#[107]⟩, .string ⟨#[]⟩, .string ⟨#[]⟩, .bool false, .bool false, .slice none 0 0],
  .agg #[.int .u8 2, .int .i64 1, .int .u8 1, .string ⟨#[107]⟩, .string ⟨#[]⟩, .string ⟨#[]⟩, .bool false, .bool false, .slice none 0 0, .int .i64 0, .bool false, .string ⟨#[]⟩, .string ⟨#[]⟩],
  undef,
  undef,
  .slice (some ⟨lb, 0, none⟩) 5 5,
  .pointer (some ⟨lb, 0, none⟩),
  .agg #[.int .u8 1, .int .i64 1, .int .u8 1, .string ⟨#[107]⟩, .string ⟨#[]⟩, .string ⟨#[]⟩, .bool false, .bool false, .slice none 0 0, .int .i64 0, .bool false, .string ⟨#[]⟩, .string ⟨#[]⟩],
  .slice (some ⟨lb, 0, none⟩) 5 5,
  .pointer (some ⟨lb, 13, none⟩),
  .agg #[.int .u8 2, .int .i64 1, .int .u8 0, .string ⟨#[]⟩, .string ⟨#[]⟩, .string ⟨#[]⟩, .bool false, .bool false, .slice none 0 0, .int .i64 0, .bool true, .string ⟨#[]⟩, .string ⟨#[49]⟩],
  .agg #[.int .u8 3, .int .i64 1, .int .u8 0, .string ⟨#[]⟩, .string ⟨#[]⟩, .string ⟨#[]⟩, .bool false, .bool false, .slice none 0 0, .int .i64 0, .bool false, .string ⟨#[]⟩, .string ⟨#[]⟩],
  undef,
  undef,
  undef,
  undef]
/-- The rows stand. -/
def G8r (w : World) (v : Value) : Prop := ∃ b0 b1 b2 b3 b4 b5 b6 b7 rb, v = .slice (some ⟨rb, 0, none⟩) 8 8 ∧ At w b0 (.cells (ecs kr0).toArray 34 (0, 0)) ∧ At w b1 (.cells (ecs kr1).toArray 34 (0, 0)) ∧ At w b2 (.cells (ecs kr2).toArray 34 (0, 0)) ∧ At w b3 (.cells (ecs kr3).toArray 34 (0, 0)) ∧ At w b4 (.cells (ecs kr4).toArray 34 (0, 0)) ∧ At w b5 (.cells (ecs kr5).toArray 34 (0, 0)) ∧ At w b6 (.cells (ecs kr6).toArray 34 (0, 0)) ∧ At w b7 (.cells (ecs kr7).toArray 34 (0, 0)) ∧ At w rb (.cells (k8c b0 b1 b2 b3 b4 b5 b6 b7) 54 (0, 0))
def g8s (i : Nat) (w : World) (v : Value) : Prop := match Nat.beq i 2 with | true => (∃ b, v = .slice (some ⟨b, 0, none⟩) 2 2 ∧ At w b (.cells (ecs kr0).toArray 34 (0, 0))) | false => (match Nat.beq i 3 with | true => (∃ b, v = .agg #[.slice (some ⟨b, 0, none⟩) 2 2, .int .i64 1] ∧ At w b (.cells (ecs kr0).toArray 34 (0, 0))) | false => (match Nat.beq i 5 with | true => (∃ b, v = .slice (some ⟨b, 0, none⟩) 1 1 ∧ At w b (.cells (ecs kr1).toArray 34 (0, 0))) | false => (match Nat.beq i 6 with | true => (∃ b, v = .agg #[.slice (some ⟨b, 0, none⟩) 1 1, .int .i64 0] ∧ At w b (.cells (ecs kr1).toArray 34 (0, 0))) | false => (match Nat.beq i 9 with | true => (∃ b, v = .slice (some ⟨b, 0, none⟩) 2 2 ∧ At w b (.cells (ecs kr2).toArray 34 (0, 0))) | false => (match Nat.beq i 10 with | true => (∃ b, v = .agg #[.slice (some ⟨b, 0, none⟩) 2 2, .int .i64 1] ∧ At w b (.cells (ecs kr2).toArray 34 (0, 0))) | false => (match Nat.beq i 12 with | true => (∃ b, v = .slice (some ⟨b, 0, none⟩) 1 1 ∧ At w b (.cells (ecs kr3).toArray 34 (0, 0))) | false => (match Nat.beq i 13 with | true => (∃ b, v = .agg #[.slice (some ⟨b, 0, none⟩) 1 1, .int .i64 0] ∧ At w b (.cells (ecs kr3).toArray 34 (0, 0))) | false => (match Nat.beq i 15 with | true => (∃ b, v = .slice (some ⟨b, 0, none⟩) 1 1 ∧ At w b (.cells (ecs kr4).toArray 34 (0, 0))) | false => (match Nat.beq i 16 with | true => (∃ b, v = .agg #[.slice (some ⟨b, 0, none⟩) 1 1, .int .i64 0] ∧ At w b (.cells (ecs kr4).toArray 34 (0, 0))) | false => (match Nat.beq i 19 with | true => (∃ b, v = .slice (some ⟨b, 0, none⟩) 1 1 ∧ At w b (.cells (ecs kr5).toArray 34 (0, 0))) | false => (match Nat.beq i 20 with | true => (∃ b, v = .agg #[.slice (some ⟨b, 0, none⟩) 1 1, .int .i64 0] ∧ At w b (.cells (ecs kr5).toArray 34 (0, 0))) | false => (match Nat.beq i 24 with | true => (∃ b, v = .slice (some ⟨b, 0, none⟩) 2 2 ∧ At w b (.cells (ecs kr6).toArray 34 (0, 0))) | false => (match Nat.beq i 25 with | true => (∃ b, v = .agg #[.slice (some ⟨b, 0, none⟩) 2 2, .int .i64 1] ∧ At w b (.cells (ecs kr6).toArray 34 (0, 0))) | false => (match Nat.beq i 33 with | true => (∃ b, v = .slice (some ⟨b, 0, none⟩) 3 3 ∧ At w b (.cells (ecs kr7).toArray 34 (0, 0))) | false => (match Nat.beq i 34 with | true => (∃ b, v = .agg #[.slice (some ⟨b, 0, none⟩) 3 3, .int .i64 2] ∧ At w b (.cells (ecs kr7).toArray 34 (0, 0))) | false => (match Nat.beq i 35 with | true => (G8r w v) | false => (match Nat.beq i 36 with | true => (G8r w v) | false => (True))))))))))))))))))
def G8 (lb : Nat) (i : Nat) (w : World) (v : Value) : Prop := match (Nat.beq i 2 || Nat.beq i 3 || Nat.beq i 5 || Nat.beq i 6 || Nat.beq i 9 || Nat.beq i 10 || Nat.beq i 12 || Nat.beq i 13 || Nat.beq i 15 || Nat.beq i 16 || Nat.beq i 19 || Nat.beq i 20 || Nat.beq i 24 || Nat.beq i 25 || Nat.beq i 33 || Nat.beq i 34 || Nat.beq i 35 || Nat.beq i 36) with
  | true => g8s i w v
  | false => v = (cv8 lb).getD i undef
/-- The frame. -/
def F8 (x0 x4 x5 x6 x7 x8 x9 x10 x18 x19 x20 x21 x22 x23 x24 x25 x26 x27 x28 x29 x30 x31 x32 x33 x34 x35 x36 x37 x38 x39 x40 x41 x42 x43 x44 x45 x46 x47 x48 x49 x50 x51 x52 x53 x54 x55 x56 x57 x58 x59 x60 x61 x62 x63 x64 x65 x66 x67 x68 x69 x70 x71 x72 x73 x74 x75 x76 x77 x78 x79 x80 x81 x82 x83 : Value) (g1 g2 lb : Nat) (vs : Nat → Value) : Act := { tmps := #[x0, .pointer (some ⟨g1, 0, none⟩), .pointer (some ⟨g2, 0, none⟩), .slice (some ⟨lb, 0, none⟩) 5 5, x4, x5, x6, x7, x8, x9, x10, vs 36, undef, undef, undef, undef, undef, undef, x18, x19, x20, x21, x22, x23, x24, x25, x26, x27, x28, x29, x30, x31, x32, x33, x34, x35, x36, x37, x38, x39, x40, x41, x42, x43, x44, x45, x46, x47, x48, x49, x50, x51, x52, x53, x54, x55, x56, x57, x58, x59, x60, x61, x62, x63, x64, x65, x66, x67, x68, x69, x70, x71, x72, x73, x74, x75, x76, x77, x78, x79, x80, x81, x82, x83, vs 0, vs 1, vs 2, vs 3, vs 4, vs 5, vs 6, vs 7, vs 8, vs 9, vs 10, vs 11, vs 12, vs 13, vs 14, vs 15, vs 16, vs 17, vs 18, vs 19, vs 20, vs 21, vs 22, vs 23, vs 24, vs 25, vs 26, vs 27, vs 28, vs 29, vs 30, vs 31, vs 32, vs 33, vs 34, vs 35, undef, undef, undef, undef, undef, undef, undef, undef, undef, undef, undef, undef, undef, undef, undef, undef, undef, undef, undef, undef, undef, undef, undef, undef, undef, undef, undef, undef, undef, undef, undef, undef, undef, undef, undef, undef, undef, undef, undef, undef, undef, undef, undef, undef, undef, undef], defers := [] }
def AllN (p : Nat → Prop) : Nat → Prop
  | 0 => True
  | n + 1 => AllN p n ∧ p n
theorem AllN.get {p : Nat → Prop} : ∀ {n : Nat}, AllN p n → ∀ i, i < n → p i
  | n + 1, h, i, hi => by
    rcases Nat.lt_succ_iff_lt_or_eq.1 hi with h1 | h1
    · exact AllN.get h.1 i h1
    · rw [h1]; exact h.2
/-- One operation runs. -/
def R8 (i : Nat) : Prop := ∀ (o : Oper), Is8 i o → ∀ (x0 x4 x5 x6 x7 x8 x9 x10 x18 x19 x20 x21 x22 x23 x24 x25 x26 x27 x28 x29 x30 x31 x32 x33 x34 x35 x36 x37 x38 x39 x40 x41 x42 x43 x44 x45 x46 x47 x48 x49 x50 x51 x52 x53 x54 x55 x56 x57 x58 x59 x60 x61 x62 x63 x64 x65 x66 x67 x68 x69 x70 x71 x72 x73 x74 x75 x76 x77 x78 x79 x80 x81 x82 x83 : Value) (g1 g2 lb : Nat) (vs : Nat → Value) (w : World), Kb w g1 g2 lb → (∀ j, (o.after.toList.any fun e => Nat.beq e.on j && Region.binds .any e) = true → G8 lb j w (vs j)) →
  ∀ (K : Act → World → Prop) (Q : Exit → Act → World → Prop), (∀ v w2, Turn No w w2 → G8 lb i w2 v → K ((F8 x0 x4 x5 x6 x7 x8 x9 x10 x18 x19 x20 x21 x22 x23 x24 x25 x26 x27 x28 x29 x30 x31 x32 x33 x34 x35 x36 x37 x38 x39 x40 x41 x42 x43 x44 x45 x46 x47 x48 x49 x50 x51 x52 x53 x54 x55 x56 x57 x58 x59 x60 x61 x62 x63 x64 x65 x66 x67 x68 x69 x70 x71 x72 x73 x74 x75 x76 x77 x78 x79 x80 x81 x82 x83 g1 g2 lb vs).put o.dst v) w2) → Oper.wp Try.prog o (F8 x0 x4 x5 x6 x7 x8 x9 x10 x18 x19 x20 x21 x22 x23 x24 x25 x26 x27 x28 x29 x30 x31 x32 x33 x34 x35 x36 x37 x38 x39 x40 x41 x42 x43 x44 x45 x46 x47 x48 x49 x50 x51 x52 x53 x54 x55 x56 x57 x58 x59 x60 x61 x62 x63 x64 x65 x66 x67 x68 x69 x70 x71 x72 x73 x74 x75 x76 x77 x78 x79 x80 x81 x82 x83 g1 g2 lb vs) w K Q
theorem wp_built {P : Program} {o : Oper} {a : Act} {w : World} {K : Act → World → Prop} {Q : Exit → Act → World → Prop} (t : TypeId) (parts : Array (Nat × Operand)) (ls : List (Nat × Value)) (cells : Array Value) (ho : o.op = .build t parts)
    (hl : parts.toList.map (fun x => (x.1, a.eval x.2)) = ls) (hb : P.built t ls = some cells) (h : K (a.put o.dst (.agg cells)) w) : o.wp P a w K Q :=
  have hl2 : (parts.map fun (i, x) => (i, a.eval x)).toList = ls := by rw [← hl, Array.toList_map]
  wp_build t parts ho (by rw [hl2, hb]; rfl) (by rw [hl2, hb]; exact h)
theorem wp_mv {P : Program} {o : Oper} {a : Act} {w : World} {K : Act → World → Prop} {Q : Exit → Act → World → Prop} {v : Value} (x : Operand) (h : o.op = .move x ∨ o.op = .assign x) (hv : a.eval x = v) (hk : K (a.put o.dst v) w) : o.wp P a w K Q := by
  subst hv
  unfold Oper.wp execOp
  rcases h with h | h <;> (rw [h]; exact hk)
theorem wp_sl {P : Program} {o : Oper} {a : Act} {w : World} {K : Act → World → Prop} {Q : Exit → Act → World → Prop} {v u : Value} (t : TypeId) (x y : Operand) (ho : o.op = .slice t x none (some y) none) (hx : a.eval x = u) (h : (Instr.sliceAt t u none (some (a.eval y)) none).run P w = .ok v w) (hk : K (a.put o.dst v) w) : o.wp P a w K Q := by
  subst hx
  unfold Oper.wp execOp
  rw [ho]
  simp only [Option.map_some, Option.map_none, Sem.run_bind, h, Result.andThen_ok]
  exact hk
theorem wp_bs {P : Program} {o : Oper} {a : Act} {w : World} {K : Act → World → Prop} {Q : Exit → Act → World → Prop} (t e : TypeId) (len n : Nat) (parts : Array (Nat × Operand)) (ls : List (Nat × Value)) (zc cells : Array Value) (ho : o.op = .buildSlice t len parts)
    (hu : P.underlying t = some (.slice e)) (hsz : (P.info? e).map (·.size) = some n) (hz : ((P.info? e).bind (·.zero)).map (·.cells) = some zc) (hsmall : ¬ len * n > 2 ^ 24) (hpos : ¬ len * n = 0) (hl : parts.toList.map (fun x => (x.1, a.eval x.2)) = ls)
    (hf : Instr.fill (fun i => some (i * n, n)) ((Array.range (len * n)).map (zc[· % zc.size]!)) ls = some cells)
    (h : K (a.put o.dst (.slice (some ⟨w.heap.size, 0, none⟩) len len)) (w.alloc (.cells cells e))) : o.wp P a w K Q := by
  obtain ⟨ie, hie, hn⟩ := Option.map_eq_some_iff.1 hsz
  obtain ⟨z, hz1, hz2⟩ := Option.map_eq_some_iff.1 hz
  rw [hie] at hz1
  subst hn hz2
  refine wp_buildSlice t e len parts ho cells ie z hu hie hz1 hsmall hpos ?_ h
  rw [Array.toList_map]
  exact (congrArg _ hl).trans hf
theorem wp_ms {P : Program} {o : Oper} {a : Act} {w : World} {K : Act → World → Prop} {Q : Exit → Act → World → Prop} (t e : TypeId) (n b : Nat) (l : Int) (x y : Operand) (zc : Array Value) (ho : o.op = .makeSlice t x y)
    (hu : P.underlying t = some (.slice e)) (hsz : (P.info? e).map (fun i => (i.size, i.bytes)) = some (n, b)) (hz : ((P.info? e).bind (·.zero)).map (·.cells) = some zc) (hx : a.eval x = .int .i64 l) (hy : a.eval y = .int .i64 l)
    (h0 : 0 ≤ l) (h1 : l.toNat * n ≤ 16777216) (h2 : (b : Int) * l ≤ 281474976710656) (h3 : l ≤ 9223372036854775807) {cells : Array Value} (hc : madeCells zc (l.toNat * n) = cells)
    (h : K (a.put o.dst (.slice (some ⟨w.heap.size, 0, none⟩) l.toNat l.toNat)) (w.alloc (.cells cells e))) : o.wp P a w K Q := by
  subst hc
  obtain ⟨ie, hie, hn⟩ := Option.map_eq_some_iff.1 hsz
  obtain ⟨z, hz1, hz2⟩ := Option.map_eq_some_iff.1 hz
  rw [hie] at hz1
  injection hn with hn hb
  subst hn hz2 hb
  have := run_makeSlice (P := P) (w := w) t e ie z hu hie hz1 .i64 .i64 l l h0 (Int.le_refl _) h1 h2 h3
  unfold Oper.wp execOp
  rw [ho]
  simp only [hx, hy, Sem.run_bind, this, Result.andThen_ok]
  exact h
theorem wp_ix {P : Program} {o : Oper} {a : Act} {w : World} {K : Act → World → Prop} {Q : Exit → Act → World → Prop} {v u : Value} (t : TypeId) (x y : Operand) (ho : o.op = .indexAddr t x y) (hx : a.eval x = u) (h : (Instr.indexAt t u (a.eval y)).run P w = .ok v w) (hk : K (a.put o.dst v) w) : o.wp P a w K Q := by
  subst hx
  unfold Oper.wp execOp
  rw [ho]
  simp only [Sem.run_bind, h, Result.andThen_ok]
  exact hk
set_option maxRecDepth 20000 in
theorem r8_0 : R8 0 := by
  intro o ho x0 x4 x5 x6 x7 x8 x9 x10 x18 x19 x20 x21 x22 x23 x24 x25 x26 x27 x28 x29 x30 x31 x32 x33 x34 x35 x36 x37 x38 x39 x40 x41 x42 x43 x44 x45 x46 x47 x48 x49 x50 x51 x52 x53 x54 x55 x56 x57 x58 x59 x60 x61 x62 x63 x64 x65 x66 x67 x68 x69 x70 x71 x72 x73 x74 x75 x76 x77 x78 x79 x80 x81 x82 x83 g1 g2 lb vs w kb hd K Q hK
  injection (show some _ = some o from ho) with ho
  subst ho
  exact wp_built 34 _ [(0, .int .u8 1), (1, .int .i64 1)] #[.int .u8 1, .int .i64 1, .int .u8 0, .string ⟨#[]⟩, .string ⟨#[]⟩, .string ⟨#[]⟩, .bool false, .bool false, .slice none 0 0, .int .i64 0, .bool false, .string ⟨#[]⟩, .string ⟨#[]⟩] rfl rfl (by kernel_rfl) (hK _ w (Turn.refl _ _) (show G8 lb 0 w (.agg #[.int .u8 1, .int .i64 1, .int .u8 0, .string ⟨#[]⟩, .string ⟨#[]⟩, .string ⟨#[]⟩, .bool false, .bool false, .slice none 0 0, .int .i64 0, .bool false, .string ⟨#[]⟩, .string ⟨#[]⟩]) from (rfl : (.agg #[.int .u8 1, .int .i64 1, .int .u8 0, .string ⟨#[]⟩, .string ⟨#[]⟩, .string ⟨#[]⟩, .bool false, .bool false, .slice none 0 0, .int .i64 0, .bool false, .string ⟨#[]⟩, .string ⟨#[]⟩] : Value) = (.agg #[.int .u8 1, .int .i64 1, .int .u8 0, .string ⟨#[]⟩, .string ⟨#[]⟩, .string ⟨#[]⟩, .bool false, .bool false, .slice none 0 0, .int .i64 0, .bool false, .string ⟨#[]⟩, .string ⟨#[]⟩] : Value))))
set_option maxRecDepth 20000 in
theorem r8_1 : R8 1 := by
  intro o ho x0 x4 x5 x6 x7 x8 x9 x10 x18 x19 x20 x21 x22 x23 x24 x25 x26 x27 x28 x29 x30 x31 x32 x33 x34 x35 x36 x37 x38 x39 x40 x41 x42 x43 x44 x45 x46 x47 x48 x49 x50 x51 x52 x53 x54 x55 x56 x57 x58 x59 x60 x61 x62 x63 x64 x65 x66 x67 x68 x69 x70 x71 x72 x73 x74 x75 x76 x77 x78 x79 x80 x81 x82 x83 g1 g2 lb vs w kb hd K Q hK
  injection (show some _ = some o from ho) with ho
  subst ho
  exact wp_built 34 _ [(0, .int .u8 3), (1, .int .i64 1)] #[.int .u8 3, .int .i64 1, .int .u8 0, .string ⟨#[]⟩, .string ⟨#[]⟩, .string ⟨#[]⟩, .bool false, .bool false, .slice none 0 0, .int .i64 0, .bool false, .string ⟨#[]⟩, .string ⟨#[]⟩] rfl rfl (by kernel_rfl) (hK _ w (Turn.refl _ _) (show G8 lb 1 w (.agg #[.int .u8 3, .int .i64 1, .int .u8 0, .string ⟨#[]⟩, .string ⟨#[]⟩, .string ⟨#[]⟩, .bool false, .bool false, .slice none 0 0, .int .i64 0, .bool false, .string ⟨#[]⟩, .string ⟨#[]⟩]) from (rfl : (.agg #[.int .u8 3, .int .i64 1, .int .u8 0, .string ⟨#[]⟩, .string ⟨#[]⟩, .string ⟨#[]⟩, .bool false, .bool false, .slice none 0 0, .int .i64 0, .bool false, .string ⟨#[]⟩, .string ⟨#[]⟩] : Value) = (.agg #[.int .u8 3, .int .i64 1, .int .u8 0, .string ⟨#[]⟩, .string ⟨#[]⟩, .string ⟨#[]⟩, .bool false, .bool false, .slice none 0 0, .int .i64 0, .bool false, .string ⟨#[]⟩, .string ⟨#[]⟩] : Value))))
set_option maxRecDepth 20000 in
theorem r8_2 : R8 2 := by
  intro o ho x0 x4 x5 x6 x7 x8 x9 x10 x18 x19 x20 x21 x22 x23 x24 x25 x26 x27 x28 x29 x30 x31 x32 x33 x34 x35 x36 x37 x38 x39 x40 x41 x42 x43 x44 x45 x46 x47 x48 x49 x50 x51 x52 x53 x54 x55 x56 x57 x58 x59 x60 x61 x62 x63 x64 x65 x66 x67 x68 x69 x70 x71 x72 x73 x74 x75 x76 x77 x78 x79 x80 x81 x82 x83 g1 g2 lb vs w kb hd K Q hK
  injection (show some _ = some o from ho) with ho
  subst ho
  have h0 : vs 0 = .agg #[.int .u8 1, .int .i64 1, .int .u8 0, .string ⟨#[]⟩, .string ⟨#[]⟩, .string ⟨#[]⟩, .bool false, .bool false, .slice none 0 0, .int .i64 0, .bool false, .string ⟨#[]⟩, .string ⟨#[]⟩] := hd 0 (by kernel_rfl)
  have h1 : vs 1 = .agg #[.int .u8 3, .int .i64 1, .int .u8 0, .string ⟨#[]⟩, .string ⟨#[]⟩, .string ⟨#[]⟩, .bool false, .bool false, .slice none 0 0, .int .i64 0, .bool false, .string ⟨#[]⟩, .string ⟨#[]⟩] := hd 1 (by kernel_rfl)
  have e : ([(0, vs 0), (1, vs 1)] : List (Nat × Value)) = [(0, (.agg #[.int .u8 1, .int .i64 1, .int .u8 0, .string ⟨#[]⟩, .string ⟨#[]⟩, .string ⟨#[]⟩, .bool false, .bool false, .slice none 0 0, .int .i64 0, .bool false, .string ⟨#[]⟩, .string ⟨#[]⟩])), (1, (.agg #[.int .u8 3, .int .i64 1, .int .u8 0, .string ⟨#[]⟩, .string ⟨#[]⟩, .string ⟨#[]⟩, .bool false, .bool false, .slice none 0 0, .int .i64 0, .bool false, .string ⟨#[]⟩, .string ⟨#[]⟩]))] := by rw [h0, h1]
  exact wp_bs 22 34 2 13 _ [(0, (.agg #[.int .u8 1, .int .i64 1, .int .u8 0, .string ⟨#[]⟩, .string ⟨#[]⟩, .string ⟨#[]⟩, .bool false, .bool false, .slice none 0 0, .int .i64 0, .bool false, .string ⟨#[]⟩, .string ⟨#[]⟩])), (1, (.agg #[.int .u8 3, .int .i64 1, .int .u8 0, .string ⟨#[]⟩, .string ⟨#[]⟩, .string ⟨#[]⟩, .bool false, .bool false, .slice none 0 0, .int .i64 0, .bool false, .string ⟨#[]⟩, .string ⟨#[]⟩]))] #[.int .u8 0, .int .i64 0, .int .u8 0, .string ⟨#[]⟩, .string ⟨#[]⟩, .string ⟨#[]⟩, .bool false, .bool false, .slice none 0 0, .int .i64 0, .bool false, .string ⟨#[]⟩, .string ⟨#[]⟩] (ecs kr0).toArray rfl Try.underlying22 (by kernel_rfl) (by kernel_rfl) (by decide) (by decide) e (by kernel_rfl) (hK _ _ ((Turn.refl _ _).alloc _) ⟨w.heap.size, rfl, At.new _ _⟩)
set_option maxRecDepth 20000 in
theorem r8_3 : R8 3 := by
  intro o ho x0 x4 x5 x6 x7 x8 x9 x10 x18 x19 x20 x21 x22 x23 x24 x25 x26 x27 x28 x29 x30 x31 x32 x33 x34 x35 x36 x37 x38 x39 x40 x41 x42 x43 x44 x45 x46 x47 x48 x49 x50 x51 x52 x53 x54 x55 x56 x57 x58 x59 x60 x61 x62 x63 x64 x65 x66 x67 x68 x69 x70 x71 x72 x73 x74 x75 x76 x77 x78 x79 x80 x81 x82 x83 g1 g2 lb vs w kb hd K Q hK
  injection (show some _ = some o from ho) with ho
  subst ho
  obtain ⟨c2, h2, k2⟩ : ∃ b, vs 2 = .slice (some ⟨b, 0, none⟩) 2 2 ∧ At w b (.cells (ecs kr0).toArray 34 (0, 0)) := hd 2 (by kernel_rfl)
  have e : ([(0, vs 2), (1, .int .i64 1)] : List (Nat × Value)) = [(0, (.slice (some ⟨c2, 0, none⟩) 2 2)), (1, .int .i64 1)] := by rw [h2]
  exact wp_built 54 _ [(0, (.slice (some ⟨c2, 0, none⟩) 2 2)), (1, .int .i64 1)] #[.slice (some ⟨c2, 0, none⟩) 2 2, .int .i64 1] rfl e (by kernel_rfl) (hK _ w (Turn.refl _ _) ⟨c2, rfl, k2⟩)
set_option maxRecDepth 20000 in
theorem r8_4 : R8 4 := by
  intro o ho x0 x4 x5 x6 x7 x8 x9 x10 x18 x19 x20 x21 x22 x23 x24 x25 x26 x27 x28 x29 x30 x31 x32 x33 x34 x35 x36 x37 x38 x39 x40 x41 x42 x43 x44 x45 x46 x47 x48 x49 x50 x51 x52 x53 x54 x55 x56 x57 x58 x59 x60 x61 x62 x63 x64 x65 x66 x67 x68 x69 x70 x71 x72 x73 x74 x75 x76 x77 x78 x79 x80 x81 x82 x83 g1 g2 lb vs w kb hd K Q hK
  injection (show some _ = some o from ho) with ho
  subst ho
  exact wp_built 34 _ [(0, .int .u8 2), (1, .int .i64 1)] #[.int .u8 2, .int .i64 1, .int .u8 0, .string ⟨#[]⟩, .string ⟨#[]⟩, .string ⟨#[]⟩, .bool false, .bool false, .slice none 0 0, .int .i64 0, .bool false, .string ⟨#[]⟩, .string ⟨#[]⟩] rfl rfl (by kernel_rfl) (hK _ w (Turn.refl _ _) (show G8 lb 4 w (.agg #[.int .u8 2, .int .i64 1, .int .u8 0, .string ⟨#[]⟩, .string ⟨#[]⟩, .string ⟨#[]⟩, .bool false, .bool false, .slice none 0 0, .int .i64 0, .bool false, .string ⟨#[]⟩, .string ⟨#[]⟩]) from (rfl : (.agg #[.int .u8 2, .int .i64 1, .int .u8 0, .string ⟨#[]⟩, .string ⟨#[]⟩, .string ⟨#[]⟩, .bool false, .bool false, .slice none 0 0, .int .i64 0, .bool false, .string ⟨#[]⟩, .string ⟨#[]⟩] : Value) = (.agg #[.int .u8 2, .int .i64 1, .int .u8 0, .string ⟨#[]⟩, .string ⟨#[]⟩, .string ⟨#[]⟩, .bool false, .bool false, .slice none 0 0, .int .i64 0, .bool false, .string ⟨#[]⟩, .string ⟨#[]⟩] : Value))))
set_option maxRecDepth 20000 in
theorem r8_5 : R8 5 := by
  intro o ho x0 x4 x5 x6 x7 x8 x9 x10 x18 x19 x20 x21 x22 x23 x24 x25 x26 x27 x28 x29 x30 x31 x32 x33 x34 x35 x36 x37 x38 x39 x40 x41 x42 x43 x44 x45 x46 x47 x48 x49 x50 x51 x52 x53 x54 x55 x56 x57 x58 x59 x60 x61 x62 x63 x64 x65 x66 x67 x68 x69 x70 x71 x72 x73 x74 x75 x76 x77 x78 x79 x80 x81 x82 x83 g1 g2 lb vs w kb hd K Q hK
  injection (show some _ = some o from ho) with ho
  subst ho
  have h4 : vs 4 = .agg #[.int .u8 2, .int .i64 1, .int .u8 0, .string ⟨#[]⟩, .string ⟨#[]⟩, .string ⟨#[]⟩, .bool false, .bool false, .slice none 0 0, .int .i64 0, .bool false, .string ⟨#[]⟩, .string ⟨#[]⟩] := hd 4 (by kernel_rfl)
  have e : ([(0, vs 4)] : List (Nat × Value)) = [(0, (.agg #[.int .u8 2, .int .i64 1, .int .u8 0, .string ⟨#[]⟩, .string ⟨#[]⟩, .string ⟨#[]⟩, .bool false, .bool false, .slice none 0 0, .int .i64 0, .bool false, .string ⟨#[]⟩, .string ⟨#[]⟩]))] := by rw [h4]
  exact wp_bs 22 34 1 13 _ [(0, (.agg #[.int .u8 2, .int .i64 1, .int .u8 0, .string ⟨#[]⟩, .string ⟨#[]⟩, .string ⟨#[]⟩, .bool false, .bool false, .slice none 0 0, .int .i64 0, .bool false, .string ⟨#[]⟩, .string ⟨#[]⟩]))] #[.int .u8 0, .int .i64 0, .int .u8 0, .string ⟨#[]⟩, .string ⟨#[]⟩, .string ⟨#[]⟩, .bool false, .bool false, .slice none 0 0, .int .i64 0, .bool false, .string ⟨#[]⟩, .string ⟨#[]⟩] (ecs kr1).toArray rfl Try.underlying22 (by kernel_rfl) (by kernel_rfl) (by decide) (by decide) e (by kernel_rfl) (hK _ _ ((Turn.refl _ _).alloc _) ⟨w.heap.size, rfl, At.new _ _⟩)
set_option maxRecDepth 20000 in
theorem r8_6 : R8 6 := by
  intro o ho x0 x4 x5 x6 x7 x8 x9 x10 x18 x19 x20 x21 x22 x23 x24 x25 x26 x27 x28 x29 x30 x31 x32 x33 x34 x35 x36 x37 x38 x39 x40 x41 x42 x43 x44 x45 x46 x47 x48 x49 x50 x51 x52 x53 x54 x55 x56 x57 x58 x59 x60 x61 x62 x63 x64 x65 x66 x67 x68 x69 x70 x71 x72 x73 x74 x75 x76 x77 x78 x79 x80 x81 x82 x83 g1 g2 lb vs w kb hd K Q hK
  injection (show some _ = some o from ho) with ho
  subst ho
  obtain ⟨c5, h5, k5⟩ : ∃ b, vs 5 = .slice (some ⟨b, 0, none⟩) 1 1 ∧ At w b (.cells (ecs kr1).toArray 34 (0, 0)) := hd 5 (by kernel_rfl)
  have e : ([(0, vs 5), (1, .int .i64 0)] : List (Nat × Value)) = [(0, (.slice (some ⟨c5, 0, none⟩) 1 1)), (1, .int .i64 0)] := by rw [h5]
  exact wp_built 54 _ [(0, (.slice (some ⟨c5, 0, none⟩) 1 1)), (1, .int .i64 0)] #[.slice (some ⟨c5, 0, none⟩) 1 1, .int .i64 0] rfl e (by kernel_rfl) (hK _ w (Turn.refl _ _) ⟨c5, rfl, k5⟩)
set_option maxRecDepth 20000 in
theorem r8_7 : R8 7 := by
  intro o ho x0 x4 x5 x6 x7 x8 x9 x10 x18 x19 x20 x21 x22 x23 x24 x25 x26 x27 x28 x29 x30 x31 x32 x33 x34 x35 x36 x37 x38 x39 x40 x41 x42 x43 x44 x45 x46 x47 x48 x49 x50 x51 x52 x53 x54 x55 x56 x57 x58 x59 x60 x61 x62 x63 x64 x65 x66 x67 x68 x69 x70 x71 x72 x73 x74 x75 x76 x77 x78 x79 x80 x81 x82 x83 g1 g2 lb vs w kb hd K Q hK
  injection (show some _ = some o from ho) with ho
  subst ho
  exact wp_built 34 _ [(0, .int .u8 1), (1, .int .i64 1)] #[.int .u8 1, .int .i64 1, .int .u8 0, .string ⟨#[]⟩, .string ⟨#[]⟩, .string ⟨#[]⟩, .bool false, .bool false, .slice none 0 0, .int .i64 0, .bool false, .string ⟨#[]⟩, .string ⟨#[]⟩] rfl rfl (by kernel_rfl) (hK _ w (Turn.refl _ _) (show G8 lb 7 w (.agg #[.int .u8 1, .int .i64 1, .int .u8 0, .string ⟨#[]⟩, .string ⟨#[]⟩, .string ⟨#[]⟩, .bool false, .bool false, .slice none 0 0, .int .i64 0, .bool false, .string ⟨#[]⟩, .string ⟨#[]⟩]) from (rfl : (.agg #[.int .u8 1, .int .i64 1, .int .u8 0, .string ⟨#[]⟩, .string ⟨#[]⟩, .string ⟨#[]⟩, .bool false, .bool false, .slice none 0 0, .int .i64 0, .bool false, .string ⟨#[]⟩, .string ⟨#[]⟩] : Value) = (.agg #[.int .u8 1, .int .i64 1, .int .u8 0, .string ⟨#[]⟩, .string ⟨#[]⟩, .string ⟨#[]⟩, .bool false, .bool false, .slice none 0 0, .int .i64 0, .bool false, .string ⟨#[]⟩, .string ⟨#[]⟩] : Value))))
set_option maxRecDepth 20000 in
theorem r8_8 : R8 8 := by
  intro o ho x0 x4 x5 x6 x7 x8 x9 x10 x18 x19 x20 x21 x22 x23 x24 x25 x26 x27 x28 x29 x30 x31 x32 x33 x34 x35 x36 x37 x38 x39 x40 x41 x42 x43 x44 x45 x46 x47 x48 x49 x50 x51 x52 x53 x54 x55 x56 x57 x58 x59 x60 x61 x62 x63 x64 x65 x66 x67 x68 x69 x70 x71 x72 x73 x74 x75 x76 x77 x78 x79 x80 x81 x82 x83 g1 g2 lb vs w kb hd K Q hK
  injection (show some _ = some o from ho) with ho
  subst ho
  exact wp_built 34 _ [(0, .int .u8 1), (1, .int .i64 1)] #[.int .u8 1, .int .i64 1, .int .u8 0, .string ⟨#[]⟩, .string ⟨#[]⟩, .string ⟨#[]⟩, .bool false, .bool false, .slice none 0 0, .int .i64 0, .bool false, .string ⟨#[]⟩, .string ⟨#[]⟩] rfl rfl (by kernel_rfl) (hK _ w (Turn.refl _ _) (show G8 lb 8 w (.agg #[.int .u8 1, .int .i64 1, .int .u8 0, .string ⟨#[]⟩, .string ⟨#[]⟩, .string ⟨#[]⟩, .bool false, .bool false, .slice none 0 0, .int .i64 0, .bool false, .string ⟨#[]⟩, .string ⟨#[]⟩]) from (rfl : (.agg #[.int .u8 1, .int .i64 1, .int .u8 0, .string ⟨#[]⟩, .string ⟨#[]⟩, .string ⟨#[]⟩, .bool false, .bool false, .slice none 0 0, .int .i64 0, .bool false, .string ⟨#[]⟩, .string ⟨#[]⟩] : Value) = (.agg #[.int .u8 1, .int .i64 1, .int .u8 0, .string ⟨#[]⟩, .string ⟨#[]⟩, .string ⟨#[]⟩, .bool false, .bool false, .slice none 0 0, .int .i64 0, .bool false, .string ⟨#[]⟩, .string ⟨#[]⟩] : Value))))
set_option maxRecDepth 20000 in
theorem r8_9 : R8 9 := by
  intro o ho x0 x4 x5 x6 x7 x8 x9 x10 x18 x19 x20 x21 x22 x23 x24 x25 x26 x27 x28 x29 x30 x31 x32 x33 x34 x35 x36 x37 x38 x39 x40 x41 x42 x43 x44 x45 x46 x47 x48 x49 x50 x51 x52 x53 x54 x55 x56 x57 x58 x59 x60 x61 x62 x63 x64 x65 x66 x67 x68 x69 x70 x71 x72 x73 x74 x75 x76 x77 x78 x79 x80 x81 x82 x83 g1 g2 lb vs w kb hd K Q hK
  injection (show some _ = some o from ho) with ho
  subst ho
  have h7 : vs 7 = .agg #[.int .u8 1, .int .i64 1, .int .u8 0, .string ⟨#[]⟩, .string ⟨#[]⟩, .string ⟨#[]⟩, .bool false, .bool false, .slice none 0 0, .int .i64 0, .bool false, .string ⟨#[]⟩, .string ⟨#[]⟩] := hd 7 (by kernel_rfl)
  have h8 : vs 8 = .agg #[.int .u8 1, .int .i64 1, .int .u8 0, .string ⟨#[]⟩, .string ⟨#[]⟩, .string ⟨#[]⟩, .bool false, .bool false, .slice none 0 0, .int .i64 0, .bool false, .string ⟨#[]⟩, .string ⟨#[]⟩] := hd 8 (by kernel_rfl)
  have e : ([(0, vs 7), (1, vs 8)] : List (Nat × Value)) = [(0, (.agg #[.int .u8 1, .int .i64 1, .int .u8 0, .string ⟨#[]⟩, .string ⟨#[]⟩, .string ⟨#[]⟩, .bool false, .bool false, .slice none 0 0, .int .i64 0, .bool false, .string ⟨#[]⟩, .string ⟨#[]⟩])), (1, (.agg #[.int .u8 1, .int .i64 1, .int .u8 0, .string ⟨#[]⟩, .string ⟨#[]⟩, .string ⟨#[]⟩, .bool false, .bool false, .slice none 0 0, .int .i64 0, .bool false, .string ⟨#[]⟩, .string ⟨#[]⟩]))] := by rw [h7, h8]
  exact wp_bs 22 34 2 13 _ [(0, (.agg #[.int .u8 1, .int .i64 1, .int .u8 0, .string ⟨#[]⟩, .string ⟨#[]⟩, .string ⟨#[]⟩, .bool false, .bool false, .slice none 0 0, .int .i64 0, .bool false, .string ⟨#[]⟩, .string ⟨#[]⟩])), (1, (.agg #[.int .u8 1, .int .i64 1, .int .u8 0, .string ⟨#[]⟩, .string ⟨#[]⟩, .string ⟨#[]⟩, .bool false, .bool false, .slice none 0 0, .int .i64 0, .bool false, .string ⟨#[]⟩, .string ⟨#[]⟩]))] #[.int .u8 0, .int .i64 0, .int .u8 0, .string ⟨#[]⟩, .string ⟨#[]⟩, .string ⟨#[]⟩, .bool false, .bool false, .slice none 0 0, .int .i64 0, .bool false, .string ⟨#[]⟩, .string ⟨#[]⟩] (ecs kr2).toArray rfl Try.underlying22 (by kernel_rfl) (by kernel_rfl) (by decide) (by decide) e (by kernel_rfl) (hK _ _ ((Turn.refl _ _).alloc _) ⟨w.heap.size, rfl, At.new _ _⟩)
set_option maxRecDepth 20000 in
theorem r8_10 : R8 10 := by
  intro o ho x0 x4 x5 x6 x7 x8 x9 x10 x18 x19 x20 x21 x22 x23 x24 x25 x26 x27 x28 x29 x30 x31 x32 x33 x34 x35 x36 x37 x38 x39 x40 x41 x42 x43 x44 x45 x46 x47 x48 x49 x50 x51 x52 x53 x54 x55 x56 x57 x58 x59 x60 x61 x62 x63 x64 x65 x66 x67 x68 x69 x70 x71 x72 x73 x74 x75 x76 x77 x78 x79 x80 x81 x82 x83 g1 g2 lb vs w kb hd K Q hK
  injection (show some _ = some o from ho) with ho
  subst ho
  obtain ⟨c9, h9, k9⟩ : ∃ b, vs 9 = .slice (some ⟨b, 0, none⟩) 2 2 ∧ At w b (.cells (ecs kr2).toArray 34 (0, 0)) := hd 9 (by kernel_rfl)
  have e : ([(0, vs 9), (1, .int .i64 1)] : List (Nat × Value)) = [(0, (.slice (some ⟨c9, 0, none⟩) 2 2)), (1, .int .i64 1)] := by rw [h9]
  exact wp_built 54 _ [(0, (.slice (some ⟨c9, 0, none⟩) 2 2)), (1, .int .i64 1)] #[.slice (some ⟨c9, 0, none⟩) 2 2, .int .i64 1] rfl e (by kernel_rfl) (hK _ w (Turn.refl _ _) ⟨c9, rfl, k9⟩)
set_option maxRecDepth 20000 in
theorem r8_11 : R8 11 := by
  intro o ho x0 x4 x5 x6 x7 x8 x9 x10 x18 x19 x20 x21 x22 x23 x24 x25 x26 x27 x28 x29 x30 x31 x32 x33 x34 x35 x36 x37 x38 x39 x40 x41 x42 x43 x44 x45 x46 x47 x48 x49 x50 x51 x52 x53 x54 x55 x56 x57 x58 x59 x60 x61 x62 x63 x64 x65 x66 x67 x68 x69 x70 x71 x72 x73 x74 x75 x76 x77 x78 x79 x80 x81 x82 x83 g1 g2 lb vs w kb hd K Q hK
  injection (show some _ = some o from ho) with ho
  subst ho
  exact wp_built 34 _ [(0, .int .u8 1)] #[.int .u8 1, .int .i64 0, .int .u8 0, .string ⟨#[]⟩, .string ⟨#[]⟩, .string ⟨#[]⟩, .bool false, .bool false, .slice none 0 0, .int .i64 0, .bool false, .string ⟨#[]⟩, .string ⟨#[]⟩] rfl rfl (by kernel_rfl) (hK _ w (Turn.refl _ _) (show G8 lb 11 w (.agg #[.int .u8 1, .int .i64 0, .int .u8 0, .string ⟨#[]⟩, .string ⟨#[]⟩, .string ⟨#[]⟩, .bool false, .bool false, .slice none 0 0, .int .i64 0, .bool false, .string ⟨#[]⟩, .string ⟨#[]⟩]) from (rfl : (.agg #[.int .u8 1, .int .i64 0, .int .u8 0, .string ⟨#[]⟩, .string ⟨#[]⟩, .string ⟨#[]⟩, .bool false, .bool false, .slice none 0 0, .int .i64 0, .bool false, .string ⟨#[]⟩, .string ⟨#[]⟩] : Value) = (.agg #[.int .u8 1, .int .i64 0, .int .u8 0, .string ⟨#[]⟩, .string ⟨#[]⟩, .string ⟨#[]⟩, .bool false, .bool false, .slice none 0 0, .int .i64 0, .bool false, .string ⟨#[]⟩, .string ⟨#[]⟩] : Value))))
set_option maxRecDepth 20000 in
theorem r8_12 : R8 12 := by
  intro o ho x0 x4 x5 x6 x7 x8 x9 x10 x18 x19 x20 x21 x22 x23 x24 x25 x26 x27 x28 x29 x30 x31 x32 x33 x34 x35 x36 x37 x38 x39 x40 x41 x42 x43 x44 x45 x46 x47 x48 x49 x50 x51 x52 x53 x54 x55 x56 x57 x58 x59 x60 x61 x62 x63 x64 x65 x66 x67 x68 x69 x70 x71 x72 x73 x74 x75 x76 x77 x78 x79 x80 x81 x82 x83 g1 g2 lb vs w kb hd K Q hK
  injection (show some _ = some o from ho) with ho
  subst ho
  have h11 : vs 11 = .agg #[.int .u8 1, .int .i64 0, .int .u8 0, .string ⟨#[]⟩, .string ⟨#[]⟩, .string ⟨#[]⟩, .bool false, .bool false, .slice none 0 0, .int .i64 0, .bool false, .string ⟨#[]⟩, .string ⟨#[]⟩] := hd 11 (by kernel_rfl)
  have e : ([(0, vs 11)] : List (Nat × Value)) = [(0, (.agg #[.int .u8 1, .int .i64 0, .int .u8 0, .string ⟨#[]⟩, .string ⟨#[]⟩, .string ⟨#[]⟩, .bool false, .bool false, .slice none 0 0, .int .i64 0, .bool false, .string ⟨#[]⟩, .string ⟨#[]⟩]))] := by rw [h11]
  exact wp_bs 22 34 1 13 _ [(0, (.agg #[.int .u8 1, .int .i64 0, .int .u8 0, .string ⟨#[]⟩, .string ⟨#[]⟩, .string ⟨#[]⟩, .bool false, .bool false, .slice none 0 0, .int .i64 0, .bool false, .string ⟨#[]⟩, .string ⟨#[]⟩]))] #[.int .u8 0, .int .i64 0, .int .u8 0, .string ⟨#[]⟩, .string ⟨#[]⟩, .string ⟨#[]⟩, .bool false, .bool false, .slice none 0 0, .int .i64 0, .bool false, .string ⟨#[]⟩, .string ⟨#[]⟩] (ecs kr3).toArray rfl Try.underlying22 (by kernel_rfl) (by kernel_rfl) (by decide) (by decide) e (by kernel_rfl) (hK _ _ ((Turn.refl _ _).alloc _) ⟨w.heap.size, rfl, At.new _ _⟩)
set_option maxRecDepth 20000 in
theorem r8_13 : R8 13 := by
  intro o ho x0 x4 x5 x6 x7 x8 x9 x10 x18 x19 x20 x21 x22 x23 x24 x25 x26 x27 x28 x29 x30 x31 x32 x33 x34 x35 x36 x37 x38 x39 x40 x41 x42 x43 x44 x45 x46 x47 x48 x49 x50 x51 x52 x53 x54 x55 x56 x57 x58 x59 x60 x61 x62 x63 x64 x65 x66 x67 x68 x69 x70 x71 x72 x73 x74 x75 x76 x77 x78 x79 x80 x81 x82 x83 g1 g2 lb vs w kb hd K Q hK
  injection (show some _ = some o from ho) with ho
  subst ho
  obtain ⟨c12, h12, k12⟩ : ∃ b, vs 12 = .slice (some ⟨b, 0, none⟩) 1 1 ∧ At w b (.cells (ecs kr3).toArray 34 (0, 0)) := hd 12 (by kernel_rfl)
  have e : ([(0, vs 12), (1, .int .i64 0)] : List (Nat × Value)) = [(0, (.slice (some ⟨c12, 0, none⟩) 1 1)), (1, .int .i64 0)] := by rw [h12]
  exact wp_built 54 _ [(0, (.slice (some ⟨c12, 0, none⟩) 1 1)), (1, .int .i64 0)] #[.slice (some ⟨c12, 0, none⟩) 1 1, .int .i64 0] rfl e (by kernel_rfl) (hK _ w (Turn.refl _ _) ⟨c12, rfl, k12⟩)
set_option maxRecDepth 20000 in
theorem r8_14 : R8 14 := by
  intro o ho x0 x4 x5 x6 x7 x8 x9 x10 x18 x19 x20 x21 x22 x23 x24 x25 x26 x27 x28 x29 x30 x31 x32 x33 x34 x35 x36 x37 x38 x39 x40 x41 x42 x43 x44 x45 x46 x47 x48 x49 x50 x51 x52 x53 x54 x55 x56 x57 x58 x59 x60 x61 x62 x63 x64 x65 x66 x67 x68 x69 x70 x71 x72 x73 x74 x75 x76 x77 x78 x79 x80 x81 x82 x83 g1 g2 lb vs w kb hd K Q hK
  injection (show some _ = some o from ho) with ho
  subst ho
  exact wp_built 34 _ [(0, .int .u8 0), (1, .int .i64 1)] #[.int .u8 0, .int .i64 1, .int .u8 0, .string ⟨#[]⟩, .string ⟨#[]⟩, .string ⟨#[]⟩, .bool false, .bool false, .slice none 0 0, .int .i64 0, .bool false, .string ⟨#[]⟩, .string ⟨#[]⟩] rfl rfl (by kernel_rfl) (hK _ w (Turn.refl _ _) (show G8 lb 14 w (.agg #[.int .u8 0, .int .i64 1, .int .u8 0, .string ⟨#[]⟩, .string ⟨#[]⟩, .string ⟨#[]⟩, .bool false, .bool false, .slice none 0 0, .int .i64 0, .bool false, .string ⟨#[]⟩, .string ⟨#[]⟩]) from (rfl : (.agg #[.int .u8 0, .int .i64 1, .int .u8 0, .string ⟨#[]⟩, .string ⟨#[]⟩, .string ⟨#[]⟩, .bool false, .bool false, .slice none 0 0, .int .i64 0, .bool false, .string ⟨#[]⟩, .string ⟨#[]⟩] : Value) = (.agg #[.int .u8 0, .int .i64 1, .int .u8 0, .string ⟨#[]⟩, .string ⟨#[]⟩, .string ⟨#[]⟩, .bool false, .bool false, .slice none 0 0, .int .i64 0, .bool false, .string ⟨#[]⟩, .string ⟨#[]⟩] : Value))))
set_option maxRecDepth 20000 in
theorem r8_15 : R8 15 := by
  intro o ho x0 x4 x5 x6 x7 x8 x9 x10 x18 x19 x20 x21 x22 x23 x24 x25 x26 x27 x28 x29 x30 x31 x32 x33 x34 x35 x36 x37 x38 x39 x40 x41 x42 x43 x44 x45 x46 x47 x48 x49 x50 x51 x52 x53 x54 x55 x56 x57 x58 x59 x60 x61 x62 x63 x64 x65 x66 x67 x68 x69 x70 x71 x72 x73 x74 x75 x76 x77 x78 x79 x80 x81 x82 x83 g1 g2 lb vs w kb hd K Q hK
  injection (show some _ = some o from ho) with ho
  subst ho
  have h14 : vs 14 = .agg #[.int .u8 0, .int .i64 1, .int .u8 0, .string ⟨#[]⟩, .string ⟨#[]⟩, .string ⟨#[]⟩, .bool false, .bool false, .slice none 0 0, .int .i64 0, .bool false, .string ⟨#[]⟩, .string ⟨#[]⟩] := hd 14 (by kernel_rfl)
  have e : ([(0, vs 14)] : List (Nat × Value)) = [(0, (.agg #[.int .u8 0, .int .i64 1, .int .u8 0, .string ⟨#[]⟩, .string ⟨#[]⟩, .string ⟨#[]⟩, .bool false, .bool false, .slice none 0 0, .int .i64 0, .bool false, .string ⟨#[]⟩, .string ⟨#[]⟩]))] := by rw [h14]
  exact wp_bs 22 34 1 13 _ [(0, (.agg #[.int .u8 0, .int .i64 1, .int .u8 0, .string ⟨#[]⟩, .string ⟨#[]⟩, .string ⟨#[]⟩, .bool false, .bool false, .slice none 0 0, .int .i64 0, .bool false, .string ⟨#[]⟩, .string ⟨#[]⟩]))] #[.int .u8 0, .int .i64 0, .int .u8 0, .string ⟨#[]⟩, .string ⟨#[]⟩, .string ⟨#[]⟩, .bool false, .bool false, .slice none 0 0, .int .i64 0, .bool false, .string ⟨#[]⟩, .string ⟨#[]⟩] (ecs kr4).toArray rfl Try.underlying22 (by kernel_rfl) (by kernel_rfl) (by decide) (by decide) e (by kernel_rfl) (hK _ _ ((Turn.refl _ _).alloc _) ⟨w.heap.size, rfl, At.new _ _⟩)
set_option maxRecDepth 20000 in
theorem r8_16 : R8 16 := by
  intro o ho x0 x4 x5 x6 x7 x8 x9 x10 x18 x19 x20 x21 x22 x23 x24 x25 x26 x27 x28 x29 x30 x31 x32 x33 x34 x35 x36 x37 x38 x39 x40 x41 x42 x43 x44 x45 x46 x47 x48 x49 x50 x51 x52 x53 x54 x55 x56 x57 x58 x59 x60 x61 x62 x63 x64 x65 x66 x67 x68 x69 x70 x71 x72 x73 x74 x75 x76 x77 x78 x79 x80 x81 x82 x83 g1 g2 lb vs w kb hd K Q hK
  injection (show some _ = some o from ho) with ho
  subst ho
  obtain ⟨c15, h15, k15⟩ : ∃ b, vs 15 = .slice (some ⟨b, 0, none⟩) 1 1 ∧ At w b (.cells (ecs kr4).toArray 34 (0, 0)) := hd 15 (by kernel_rfl)
  have e : ([(0, vs 15), (1, .int .i64 0)] : List (Nat × Value)) = [(0, (.slice (some ⟨c15, 0, none⟩) 1 1)), (1, .int .i64 0)] := by rw [h15]
  exact wp_built 54 _ [(0, (.slice (some ⟨c15, 0, none⟩) 1 1)), (1, .int .i64 0)] #[.slice (some ⟨c15, 0, none⟩) 1 1, .int .i64 0] rfl e (by kernel_rfl) (hK _ w (Turn.refl _ _) ⟨c15, rfl, k15⟩)
set_option maxRecDepth 20000 in
theorem r8_17 : R8 17 := by
  intro o ho x0 x4 x5 x6 x7 x8 x9 x10 x18 x19 x20 x21 x22 x23 x24 x25 x26 x27 x28 x29 x30 x31 x32 x33 x34 x35 x36 x37 x38 x39 x40 x41 x42 x43 x44 x45 x46 x47 x48 x49 x50 x51 x52 x53 x54 x55 x56 x57 x58 x59 x60 x61 x62 x63 x64 x65 x66 x67 x68 x69 x70 x71 x72 x73 x74 x75 x76 x77 x78 x79 x80 x81 x82 x83 g1 g2 lb vs w kb hd K Q hK
  injection (show some _ = some o from ho) with ho
  subst ho
  exact wp_load_row 32 _ rfl g2 rfl 32 #[.int .i64 0, .bool true, .string ⟨#[]⟩, .string ⟨#[49]⟩] (0, 0) _ kb.b2 Try.underlying32 rfl (by kernel_rfl) (hK _ w (Turn.refl _ _) rfl)
set_option maxRecDepth 20000 in
theorem r8_18 : R8 18 := by
  intro o ho x0 x4 x5 x6 x7 x8 x9 x10 x18 x19 x20 x21 x22 x23 x24 x25 x26 x27 x28 x29 x30 x31 x32 x33 x34 x35 x36 x37 x38 x39 x40 x41 x42 x43 x44 x45 x46 x47 x48 x49 x50 x51 x52 x53 x54 x55 x56 x57 x58 x59 x60 x61 x62 x63 x64 x65 x66 x67 x68 x69 x70 x71 x72 x73 x74 x75 x76 x77 x78 x79 x80 x81 x82 x83 g1 g2 lb vs w kb hd K Q hK
  injection (show some _ = some o from ho) with ho
  subst ho
  have h17 : vs 17 = .agg #[.int .i64 0, .bool true, .string ⟨#[]⟩, .string ⟨#[49]⟩] := hd 17 (by kernel_rfl)
  have e : ([(0, .int .u8 1), (1, .int .i64 1), (3, vs 17)] : List (Nat × Value)) = [(0, .int .u8 1), (1, .int .i64 1), (3, (.agg #[.int .i64 0, .bool true, .string ⟨#[]⟩, .string ⟨#[49]⟩]))] := by rw [h17]
  exact wp_built 34 _ [(0, .int .u8 1), (1, .int .i64 1), (3, (.agg #[.int .i64 0, .bool true, .string ⟨#[]⟩, .string ⟨#[49]⟩]))] #[.int .u8 1, .int .i64 1, .int .u8 0, .string ⟨#[]⟩, .string ⟨#[]⟩, .string ⟨#[]⟩, .bool false, .bool false, .slice none 0 0, .int .i64 0, .bool true, .string ⟨#[]⟩, .string ⟨#[49]⟩] rfl e (by kernel_rfl) (hK _ w (Turn.refl _ _) (show G8 lb 18 w (.agg #[.int .u8 1, .int .i64 1, .int .u8 0, .string ⟨#[]⟩, .string ⟨#[]⟩, .string ⟨#[]⟩, .bool false, .bool false, .slice none 0 0, .int .i64 0, .bool true, .string ⟨#[]⟩, .string ⟨#[49]⟩]) from (rfl : (.agg #[.int .u8 1, .int .i64 1, .int .u8 0, .string ⟨#[]⟩, .string ⟨#[]⟩, .string ⟨#[]⟩, .bool false, .bool false, .slice none 0 0, .int .i64 0, .bool true, .string ⟨#[]⟩, .string ⟨#[49]⟩] : Value) = (.agg #[.int .u8 1, .int .i64 1, .int .u8 0, .string ⟨#[]⟩, .string ⟨#[]⟩, .string ⟨#[]⟩, .bool false, .bool false, .slice none 0 0, .int .i64 0, .bool true, .string ⟨#[]⟩, .string ⟨#[49]⟩] : Value))))
set_option maxRecDepth 20000 in
theorem r8_19 : R8 19 := by
  intro o ho x0 x4 x5 x6 x7 x8 x9 x10 x18 x19 x20 x21 x22 x23 x24 x25 x26 x27 x28 x29 x30 x31 x32 x33 x34 x35 x36 x37 x38 x39 x40 x41 x42 x43 x44 x45 x46 x47 x48 x49 x50 x51 x52 x53 x54 x55 x56 x57 x58 x59 x60 x61 x62 x63 x64 x65 x66 x67 x68 x69 x70 x71 x72 x73 x74 x75 x76 x77 x78 x79 x80 x81 x82 x83 g1 g2 lb vs w kb hd K Q hK
  injection (show some _ = some o from ho) with ho
  subst ho
  have h18 : vs 18 = .agg #[.int .u8 1, .int .i64 1, .int .u8 0, .string ⟨#[]⟩, .string ⟨#[]⟩, .string ⟨#[]⟩, .bool false, .bool false, .slice none 0 0, .int .i64 0, .bool true, .string ⟨#[]⟩, .string ⟨#[49]⟩] := hd 18 (by kernel_rfl)
  have e : ([(0, vs 18)] : List (Nat × Value)) = [(0, (.agg #[.int .u8 1, .int .i64 1, .int .u8 0, .string ⟨#[]⟩, .string ⟨#[]⟩, .string ⟨#[]⟩, .bool false, .bool false, .slice none 0 0, .int .i64 0, .bool true, .string ⟨#[]⟩, .string ⟨#[49]⟩]))] := by rw [h18]
  exact wp_bs 22 34 1 13 _ [(0, (.agg #[.int .u8 1, .int .i64 1, .int .u8 0, .string ⟨#[]⟩, .string ⟨#[]⟩, .string ⟨#[]⟩, .bool false, .bool false, .slice none 0 0, .int .i64 0, .bool true, .string ⟨#[]⟩, .string ⟨#[49]⟩]))] #[.int .u8 0, .int .i64 0, .int .u8 0, .string ⟨#[]⟩, .string ⟨#[]⟩, .string ⟨#[]⟩, .bool false, .bool false, .slice none 0 0, .int .i64 0, .bool false, .string ⟨#[]⟩, .string ⟨#[]⟩] (ecs kr5).toArray rfl Try.underlying22 (by kernel_rfl) (by kernel_rfl) (by decide) (by decide) e (by kernel_rfl) (hK _ _ ((Turn.refl _ _).alloc _) ⟨w.heap.size, rfl, At.new _ _⟩)
set_option maxRecDepth 20000 in
theorem r8_20 : R8 20 := by
  intro o ho x0 x4 x5 x6 x7 x8 x9 x10 x18 x19 x20 x21 x22 x23 x24 x25 x26 x27 x28 x29 x30 x31 x32 x33 x34 x35 x36 x37 x38 x39 x40 x41 x42 x43 x44 x45 x46 x47 x48 x49 x50 x51 x52 x53 x54 x55 x56 x57 x58 x59 x60 x61 x62 x63 x64 x65 x66 x67 x68 x69 x70 x71 x72 x73 x74 x75 x76 x77 x78 x79 x80 x81 x82 x83 g1 g2 lb vs w kb hd K Q hK
  injection (show some _ = some o from ho) with ho
  subst ho
  obtain ⟨c19, h19, k19⟩ : ∃ b, vs 19 = .slice (some ⟨b, 0, none⟩) 1 1 ∧ At w b (.cells (ecs kr5).toArray 34 (0, 0)) := hd 19 (by kernel_rfl)
  have e : ([(0, vs 19), (1, .int .i64 0)] : List (Nat × Value)) = [(0, (.slice (some ⟨c19, 0, none⟩) 1 1)), (1, .int .i64 0)] := by rw [h19]
  exact wp_built 54 _ [(0, (.slice (some ⟨c19, 0, none⟩) 1 1)), (1, .int .i64 0)] #[.slice (some ⟨c19, 0, none⟩) 1 1, .int .i64 0] rfl e (by kernel_rfl) (hK _ w (Turn.refl _ _) ⟨c19, rfl, k19⟩)
set_option maxRecDepth 20000 in
theorem r8_21 : R8 21 := by
  intro o ho x0 x4 x5 x6 x7 x8 x9 x10 x18 x19 x20 x21 x22 x23 x24 x25 x26 x27 x28 x29 x30 x31 x32 x33 x34 x35 x36 x37 x38 x39 x40 x41 x42 x43 x44 x45 x46 x47 x48 x49 x50 x51 x52 x53 x54 x55 x56 x57 x58 x59 x60 x61 x62 x63 x64 x65 x66 x67 x68 x69 x70 x71 x72 x73 x74 x75 x76 x77 x78 x79 x80 x81 x82 x83 g1 g2 lb vs w kb hd K Q hK
  injection (show some _ = some o from ho) with ho
  subst ho
  exact wp_built 34 _ [(0, .int .u8 1), (1, .int .i64 1)] #[.int .u8 1, .int .i64 1, .int .u8 0, .string ⟨#[]⟩, .string ⟨#[]⟩, .string ⟨#[]⟩, .bool false, .bool false, .slice none 0 0, .int .i64 0, .bool false, .string ⟨#[]⟩, .string ⟨#[]⟩] rfl rfl (by kernel_rfl) (hK _ w (Turn.refl _ _) (show G8 lb 21 w (.agg #[.int .u8 1, .int .i64 1, .int .u8 0, .string ⟨#[]⟩, .string ⟨#[]⟩, .string ⟨#[]⟩, .bool false, .bool false, .slice none 0 0, .int .i64 0, .bool false, .string ⟨#[]⟩, .string ⟨#[]⟩]) from (rfl : (.agg #[.int .u8 1, .int .i64 1, .int .u8 0, .string ⟨#[]⟩, .string ⟨#[]⟩, .string ⟨#[]⟩, .bool false, .bool false, .slice none 0 0, .int .i64 0, .bool false, .string ⟨#[]⟩, .string ⟨#[]⟩] : Value) = (.agg #[.int .u8 1, .int .i64 1, .int .u8 0, .string ⟨#[]⟩, .string ⟨#[]⟩, .string ⟨#[]⟩, .bool false, .bool false, .slice none 0 0, .int .i64 0, .bool false, .string ⟨#[]⟩, .string ⟨#[]⟩] : Value))))
set_option maxRecDepth 20000 in
theorem r8_22 : R8 22 := by
  intro o ho x0 x4 x5 x6 x7 x8 x9 x10 x18 x19 x20 x21 x22 x23 x24 x25 x26 x27 x28 x29 x30 x31 x32 x33 x34 x35 x36 x37 x38 x39 x40 x41 x42 x43 x44 x45 x46 x47 x48 x49 x50 x51 x52 x53 x54 x55 x56 x57 x58 x59 x60 x61 x62 x63 x64 x65 x66 x67 x68 x69 x70 x71 x72 x73 x74 x75 x76 x77 x78 x79 x80 x81 x82 x83 g1 g2 lb vs w kb hd K Q hK
  injection (show some _ = some o from ho) with ho
  subst ho
  exact wp_load_row 29 _ rfl g1 rfl 29 #[.int .u8 1, .string ⟨#[107]⟩, .string ⟨#[]⟩, .string ⟨#[]⟩, .bool false, .bool false, .slice none 0 0] (0, 0) _ kb.b1 Try.underlying29 rfl (by kernel_rfl) (hK _ w (Turn.refl _ _) rfl)
set_option maxRecDepth 20000 in
theorem r8_23 : R8 23 := by
  intro o ho x0 x4 x5 x6 x7 x8 x9 x10 x18 x19 x20 x21 x22 x23 x24 x25 x26 x27 x28 x29 x30 x31 x32 x33 x34 x35 x36 x37 x38 x39 x40 x41 x42 x43 x44 x45 x46 x47 x48 x49 x50 x51 x52 x53 x54 x55 x56 x57 x58 x59 x60 x61 x62 x63 x64 x65 x66 x67 x68 x69 x70 x71 x72 x73 x74 x75 x76 x77 x78 x79 x80 x81 x82 x83 g1 g2 lb vs w kb hd K Q hK
  injection (show some _ = some o from ho) with ho
  subst ho
  have h22 : vs 22 = .agg #[.int .u8 1, .string ⟨#[107]⟩, .string ⟨#[]⟩, .string ⟨#[]⟩, .bool false, .bool false, .slice none 0 0] := hd 22 (by kernel_rfl)
  have e : ([(0, .int .u8 2), (1, .int .i64 1), (2, vs 22)] : List (Nat × Value)) = [(0, .int .u8 2), (1, .int .i64 1), (2, (.agg #[.int .u8 1, .string ⟨#[107]⟩, .string ⟨#[]⟩, .string ⟨#[]⟩, .bool false, .bool false, .slice none 0 0]))] := by rw [h22]
  exact wp_built 34 _ [(0, .int .u8 2), (1, .int .i64 1), (2, (.agg #[.int .u8 1, .string ⟨#[107]⟩, .string ⟨#[]⟩, .string ⟨#[]⟩, .bool false, .bool false, .slice none 0 0]))] #[.int .u8 2, .int .i64 1, .int .u8 1, .string ⟨#[107]⟩, .string ⟨#[]⟩, .string ⟨#[]⟩, .bool false, .bool false, .slice none 0 0, .int .i64 0, .bool false, .string ⟨#[]⟩, .string ⟨#[]⟩] rfl e (by kernel_rfl) (hK _ w (Turn.refl _ _) (show G8 lb 23 w (.agg #[.int .u8 2, .int .i64 1, .int .u8 1, .string ⟨#[107]⟩, .string ⟨#[]⟩, .string ⟨#[]⟩, .bool false, .bool false, .slice none 0 0, .int .i64 0, .bool false, .string ⟨#[]⟩, .string ⟨#[]⟩]) from (rfl : (.agg #[.int .u8 2, .int .i64 1, .int .u8 1, .string ⟨#[107]⟩, .string ⟨#[]⟩, .string ⟨#[]⟩, .bool false, .bool false, .slice none 0 0, .int .i64 0, .bool false, .string ⟨#[]⟩, .string ⟨#[]⟩] : Value) = (.agg #[.int .u8 2, .int .i64 1, .int .u8 1, .string ⟨#[107]⟩, .string ⟨#[]⟩, .string ⟨#[]⟩, .bool false, .bool false, .slice none 0 0, .int .i64 0, .bool false, .string ⟨#[]⟩, .string ⟨#[]⟩] : Value))))
set_option maxRecDepth 20000 in
theorem r8_24 : R8 24 := by
  intro o ho x0 x4 x5 x6 x7 x8 x9 x10 x18 x19 x20 x21 x22 x23 x24 x25 x26 x27 x28 x29 x30 x31 x32 x33 x34 x35 x36 x37 x38 x39 x40 x41 x42 x43 x44 x45 x46 x47 x48 x49 x50 x51 x52 x53 x54 x55 x56 x57 x58 x59 x60 x61 x62 x63 x64 x65 x66 x67 x68 x69 x70 x71 x72 x73 x74 x75 x76 x77 x78 x79 x80 x81 x82 x83 g1 g2 lb vs w kb hd K Q hK
  injection (show some _ = some o from ho) with ho
  subst ho
  have h21 : vs 21 = .agg #[.int .u8 1, .int .i64 1, .int .u8 0, .string ⟨#[]⟩, .string ⟨#[]⟩, .string ⟨#[]⟩, .bool false, .bool false, .slice none 0 0, .int .i64 0, .bool false, .string ⟨#[]⟩, .string ⟨#[]⟩] := hd 21 (by kernel_rfl)
  have h23 : vs 23 = .agg #[.int .u8 2, .int .i64 1, .int .u8 1, .string ⟨#[107]⟩, .string ⟨#[]⟩, .string ⟨#[]⟩, .bool false, .bool false, .slice none 0 0, .int .i64 0, .bool false, .string ⟨#[]⟩, .string ⟨#[]⟩] := hd 23 (by kernel_rfl)
  have e : ([(0, vs 21), (1, vs 23)] : List (Nat × Value)) = [(0, (.agg #[.int .u8 1, .int .i64 1, .int .u8 0, .string ⟨#[]⟩, .string ⟨#[]⟩, .string ⟨#[]⟩, .bool false, .bool false, .slice none 0 0, .int .i64 0, .bool false, .string ⟨#[]⟩, .string ⟨#[]⟩])), (1, (.agg #[.int .u8 2, .int .i64 1, .int .u8 1, .string ⟨#[107]⟩, .string ⟨#[]⟩, .string ⟨#[]⟩, .bool false, .bool false, .slice none 0 0, .int .i64 0, .bool false, .string ⟨#[]⟩, .string ⟨#[]⟩]))] := by rw [h21, h23]
  exact wp_bs 22 34 2 13 _ [(0, (.agg #[.int .u8 1, .int .i64 1, .int .u8 0, .string ⟨#[]⟩, .string ⟨#[]⟩, .string ⟨#[]⟩, .bool false, .bool false, .slice none 0 0, .int .i64 0, .bool false, .string ⟨#[]⟩, .string ⟨#[]⟩])), (1, (.agg #[.int .u8 2, .int .i64 1, .int .u8 1, .string ⟨#[107]⟩, .string ⟨#[]⟩, .string ⟨#[]⟩, .bool false, .bool false, .slice none 0 0, .int .i64 0, .bool false, .string ⟨#[]⟩, .string ⟨#[]⟩]))] #[.int .u8 0, .int .i64 0, .int .u8 0, .string ⟨#[]⟩, .string ⟨#[]⟩, .string ⟨#[]⟩, .bool false, .bool false, .slice none 0 0, .int .i64 0, .bool false, .string ⟨#[]⟩, .string ⟨#[]⟩] (ecs kr6).toArray rfl Try.underlying22 (by kernel_rfl) (by kernel_rfl) (by decide) (by decide) e (by kernel_rfl) (hK _ _ ((Turn.refl _ _).alloc _) ⟨w.heap.size, rfl, At.new _ _⟩)
set_option maxRecDepth 20000 in
theorem r8_25 : R8 25 := by
  intro o ho x0 x4 x5 x6 x7 x8 x9 x10 x18 x19 x20 x21 x22 x23 x24 x25 x26 x27 x28 x29 x30 x31 x32 x33 x34 x35 x36 x37 x38 x39 x40 x41 x42 x43 x44 x45 x46 x47 x48 x49 x50 x51 x52 x53 x54 x55 x56 x57 x58 x59 x60 x61 x62 x63 x64 x65 x66 x67 x68 x69 x70 x71 x72 x73 x74 x75 x76 x77 x78 x79 x80 x81 x82 x83 g1 g2 lb vs w kb hd K Q hK
  injection (show some _ = some o from ho) with ho
  subst ho
  obtain ⟨c24, h24, k24⟩ : ∃ b, vs 24 = .slice (some ⟨b, 0, none⟩) 2 2 ∧ At w b (.cells (ecs kr6).toArray 34 (0, 0)) := hd 24 (by kernel_rfl)
  have e : ([(0, vs 24), (1, .int .i64 1)] : List (Nat × Value)) = [(0, (.slice (some ⟨c24, 0, none⟩) 2 2)), (1, .int .i64 1)] := by rw [h24]
  exact wp_built 54 _ [(0, (.slice (some ⟨c24, 0, none⟩) 2 2)), (1, .int .i64 1)] #[.slice (some ⟨c24, 0, none⟩) 2 2, .int .i64 1] rfl e (by kernel_rfl) (hK _ w (Turn.refl _ _) ⟨c24, rfl, k24⟩)
set_option maxRecDepth 20000 in
theorem r8_26 : R8 26 := by
  intro o ho x0 x4 x5 x6 x7 x8 x9 x10 x18 x19 x20 x21 x22 x23 x24 x25 x26 x27 x28 x29 x30 x31 x32 x33 x34 x35 x36 x37 x38 x39 x40 x41 x42 x43 x44 x45 x46 x47 x48 x49 x50 x51 x52 x53 x54 x55 x56 x57 x58 x59 x60 x61 x62 x63 x64 x65 x66 x67 x68 x69 x70 x71 x72 x73 x74 x75 x76 x77 x78 x79 x80 x81 x82 x83 g1 g2 lb vs w kb hd K Q hK
  injection (show some _ = some o from ho) with ho
  subst ho
  exact wp_mv _ (.inl rfl) rfl (hK _ w (Turn.refl _ _) rfl)
set_option maxRecDepth 20000 in
theorem r8_27 : R8 27 := by
  intro o ho x0 x4 x5 x6 x7 x8 x9 x10 x18 x19 x20 x21 x22 x23 x24 x25 x26 x27 x28 x29 x30 x31 x32 x33 x34 x35 x36 x37 x38 x39 x40 x41 x42 x43 x44 x45 x46 x47 x48 x49 x50 x51 x52 x53 x54 x55 x56 x57 x58 x59 x60 x61 x62 x63 x64 x65 x66 x67 x68 x69 x70 x71 x72 x73 x74 x75 x76 x77 x78 x79 x80 x81 x82 x83 g1 g2 lb vs w kb hd K Q hK
  injection (show some _ = some o from ho) with ho
  subst ho
  have h26 : vs 26 = .slice (some ⟨lb, 0, none⟩) 5 5 := hd 26 (by kernel_rfl)
  exact wp_ix 22 _ _ rfl (show _ = _ from h26) (v := .pointer (some ⟨lb, 0, none⟩)) (by kernel_rfl) (hK _ w (Turn.refl _ _) rfl)
set_option maxRecDepth 20000 in
theorem r8_28 : R8 28 := by
  intro o ho x0 x4 x5 x6 x7 x8 x9 x10 x18 x19 x20 x21 x22 x23 x24 x25 x26 x27 x28 x29 x30 x31 x32 x33 x34 x35 x36 x37 x38 x39 x40 x41 x42 x43 x44 x45 x46 x47 x48 x49 x50 x51 x52 x53 x54 x55 x56 x57 x58 x59 x60 x61 x62 x63 x64 x65 x66 x67 x68 x69 x70 x71 x72 x73 x74 x75 x76 x77 x78 x79 x80 x81 x82 x83 g1 g2 lb vs w kb hd K Q hK
  injection (show some _ = some o from ho) with ho
  subst ho
  have h27 : vs 27 = .pointer (some ⟨lb, 0, none⟩) := hd 27 (by kernel_rfl)
  exact wp_load_mid 34 _ rfl lb 0 (show _ = _ from h27) [.int .u8 1, .int .i64 1, .int .u8 1, .string ⟨#[107]⟩, .string ⟨#[]⟩, .string ⟨#[]⟩, .bool false, .bool false, .slice none 0 0, .int .i64 0, .bool false, .string ⟨#[]⟩, .string ⟨#[]⟩] _ (kb.rng (j := 0) (e := ke1) rfl) Try.underlying34 rfl (by kernel_rfl) (hK _ w (Turn.refl _ _) rfl)
set_option maxRecDepth 20000 in
theorem r8_29 : R8 29 := by
  intro o ho x0 x4 x5 x6 x7 x8 x9 x10 x18 x19 x20 x21 x22 x23 x24 x25 x26 x27 x28 x29 x30 x31 x32 x33 x34 x35 x36 x37 x38 x39 x40 x41 x42 x43 x44 x45 x46 x47 x48 x49 x50 x51 x52 x53 x54 x55 x56 x57 x58 x59 x60 x61 x62 x63 x64 x65 x66 x67 x68 x69 x70 x71 x72 x73 x74 x75 x76 x77 x78 x79 x80 x81 x82 x83 g1 g2 lb vs w kb hd K Q hK
  injection (show some _ = some o from ho) with ho
  subst ho
  exact wp_mv _ (.inl rfl) rfl (hK _ w (Turn.refl _ _) rfl)
set_option maxRecDepth 20000 in
theorem r8_30 : R8 30 := by
  intro o ho x0 x4 x5 x6 x7 x8 x9 x10 x18 x19 x20 x21 x22 x23 x24 x25 x26 x27 x28 x29 x30 x31 x32 x33 x34 x35 x36 x37 x38 x39 x40 x41 x42 x43 x44 x45 x46 x47 x48 x49 x50 x51 x52 x53 x54 x55 x56 x57 x58 x59 x60 x61 x62 x63 x64 x65 x66 x67 x68 x69 x70 x71 x72 x73 x74 x75 x76 x77 x78 x79 x80 x81 x82 x83 g1 g2 lb vs w kb hd K Q hK
  injection (show some _ = some o from ho) with ho
  subst ho
  have h29 : vs 29 = .slice (some ⟨lb, 0, none⟩) 5 5 := hd 29 (by kernel_rfl)
  exact wp_ix 22 _ _ rfl (show _ = _ from h29) (v := .pointer (some ⟨lb, 13, none⟩)) (by kernel_rfl) (hK _ w (Turn.refl _ _) rfl)
set_option maxRecDepth 20000 in
theorem r8_31 : R8 31 := by
  intro o ho x0 x4 x5 x6 x7 x8 x9 x10 x18 x19 x20 x21 x22 x23 x24 x25 x26 x27 x28 x29 x30 x31 x32 x33 x34 x35 x36 x37 x38 x39 x40 x41 x42 x43 x44 x45 x46 x47 x48 x49 x50 x51 x52 x53 x54 x55 x56 x57 x58 x59 x60 x61 x62 x63 x64 x65 x66 x67 x68 x69 x70 x71 x72 x73 x74 x75 x76 x77 x78 x79 x80 x81 x82 x83 g1 g2 lb vs w kb hd K Q hK
  injection (show some _ = some o from ho) with ho
  subst ho
  have h30 : vs 30 = .pointer (some ⟨lb, 13, none⟩) := hd 30 (by kernel_rfl)
  exact wp_load_mid 34 _ rfl lb 13 (show _ = _ from h30) [.int .u8 2, .int .i64 1, .int .u8 0, .string ⟨#[]⟩, .string ⟨#[]⟩, .string ⟨#[]⟩, .bool false, .bool false, .slice none 0 0, .int .i64 0, .bool true, .string ⟨#[]⟩, .string ⟨#[49]⟩] _ (kb.rng (j := 1) (e := ke2) rfl) Try.underlying34 rfl (by kernel_rfl) (hK _ w (Turn.refl _ _) rfl)
set_option maxRecDepth 20000 in
theorem r8_32 : R8 32 := by
  intro o ho x0 x4 x5 x6 x7 x8 x9 x10 x18 x19 x20 x21 x22 x23 x24 x25 x26 x27 x28 x29 x30 x31 x32 x33 x34 x35 x36 x37 x38 x39 x40 x41 x42 x43 x44 x45 x46 x47 x48 x49 x50 x51 x52 x53 x54 x55 x56 x57 x58 x59 x60 x61 x62 x63 x64 x65 x66 x67 x68 x69 x70 x71 x72 x73 x74 x75 x76 x77 x78 x79 x80 x81 x82 x83 g1 g2 lb vs w kb hd K Q hK
  injection (show some _ = some o from ho) with ho
  subst ho
  exact wp_built 34 _ [(0, .int .u8 3), (1, .int .i64 1)] #[.int .u8 3, .int .i64 1, .int .u8 0, .string ⟨#[]⟩, .string ⟨#[]⟩, .string ⟨#[]⟩, .bool false, .bool false, .slice none 0 0, .int .i64 0, .bool false, .string ⟨#[]⟩, .string ⟨#[]⟩] rfl rfl (by kernel_rfl) (hK _ w (Turn.refl _ _) (show G8 lb 32 w (.agg #[.int .u8 3, .int .i64 1, .int .u8 0, .string ⟨#[]⟩, .string ⟨#[]⟩, .string ⟨#[]⟩, .bool false, .bool false, .slice none 0 0, .int .i64 0, .bool false, .string ⟨#[]⟩, .string ⟨#[]⟩]) from (rfl : (.agg #[.int .u8 3, .int .i64 1, .int .u8 0, .string ⟨#[]⟩, .string ⟨#[]⟩, .string ⟨#[]⟩, .bool false, .bool false, .slice none 0 0, .int .i64 0, .bool false, .string ⟨#[]⟩, .string ⟨#[]⟩] : Value) = (.agg #[.int .u8 3, .int .i64 1, .int .u8 0, .string ⟨#[]⟩, .string ⟨#[]⟩, .string ⟨#[]⟩, .bool false, .bool false, .slice none 0 0, .int .i64 0, .bool false, .string ⟨#[]⟩, .string ⟨#[]⟩] : Value))))
set_option maxRecDepth 20000 in
theorem r8_33 : R8 33 := by
  intro o ho x0 x4 x5 x6 x7 x8 x9 x10 x18 x19 x20 x21 x22 x23 x24 x25 x26 x27 x28 x29 x30 x31 x32 x33 x34 x35 x36 x37 x38 x39 x40 x41 x42 x43 x44 x45 x46 x47 x48 x49 x50 x51 x52 x53 x54 x55 x56 x57 x58 x59 x60 x61 x62 x63 x64 x65 x66 x67 x68 x69 x70 x71 x72 x73 x74 x75 x76 x77 x78 x79 x80 x81 x82 x83 g1 g2 lb vs w kb hd K Q hK
  injection (show some _ = some o from ho) with ho
  subst ho
  have h28 : vs 28 = .agg #[.int .u8 1, .int .i64 1, .int .u8 1, .string ⟨#[107]⟩, .string ⟨#[]⟩, .string ⟨#[]⟩, .bool false, .bool false, .slice none 0 0, .int .i64 0, .bool false, .string ⟨#[]⟩, .string ⟨#[]⟩] := hd 28 (by kernel_rfl)
  have h31 : vs 31 = .agg #[.int .u8 2, .int .i64 1, .int .u8 0, .string ⟨#[]⟩, .string ⟨#[]⟩, .string ⟨#[]⟩, .bool false, .bool false, .slice none 0 0, .int .i64 0, .bool true, .string ⟨#[]⟩, .string ⟨#[49]⟩] := hd 31 (by kernel_rfl)
  have h32 : vs 32 = .agg #[.int .u8 3, .int .i64 1, .int .u8 0, .string ⟨#[]⟩, .string ⟨#[]⟩, .string ⟨#[]⟩, .bool false, .bool false, .slice none 0 0, .int .i64 0, .bool false, .string ⟨#[]⟩, .string ⟨#[]⟩] := hd 32 (by kernel_rfl)
  have e : ([(0, vs 28), (1, vs 31), (2, vs 32)] : List (Nat × Value)) = [(0, (.agg #[.int .u8 1, .int .i64 1, .int .u8 1, .string ⟨#[107]⟩, .string ⟨#[]⟩, .string ⟨#[]⟩, .bool false, .bool false, .slice none 0 0, .int .i64 0, .bool false, .string ⟨#[]⟩, .string ⟨#[]⟩])), (1, (.agg #[.int .u8 2, .int .i64 1, .int .u8 0, .string ⟨#[]⟩, .string ⟨#[]⟩, .string ⟨#[]⟩, .bool false, .bool false, .slice none 0 0, .int .i64 0, .bool true, .string ⟨#[]⟩, .string ⟨#[49]⟩])), (2, (.agg #[.int .u8 3, .int .i64 1, .int .u8 0, .string ⟨#[]⟩, .string ⟨#[]⟩, .string ⟨#[]⟩, .bool false, .bool false, .slice none 0 0, .int .i64 0, .bool false, .string ⟨#[]⟩, .string ⟨#[]⟩]))] := by rw [h28, h31, h32]
  exact wp_bs 22 34 3 13 _ [(0, (.agg #[.int .u8 1, .int .i64 1, .int .u8 1, .string ⟨#[107]⟩, .string ⟨#[]⟩, .string ⟨#[]⟩, .bool false, .bool false, .slice none 0 0, .int .i64 0, .bool false, .string ⟨#[]⟩, .string ⟨#[]⟩])), (1, (.agg #[.int .u8 2, .int .i64 1, .int .u8 0, .string ⟨#[]⟩, .string ⟨#[]⟩, .string ⟨#[]⟩, .bool false, .bool false, .slice none 0 0, .int .i64 0, .bool true, .string ⟨#[]⟩, .string ⟨#[49]⟩])), (2, (.agg #[.int .u8 3, .int .i64 1, .int .u8 0, .string ⟨#[]⟩, .string ⟨#[]⟩, .string ⟨#[]⟩, .bool false, .bool false, .slice none 0 0, .int .i64 0, .bool false, .string ⟨#[]⟩, .string ⟨#[]⟩]))] #[.int .u8 0, .int .i64 0, .int .u8 0, .string ⟨#[]⟩, .string ⟨#[]⟩, .string ⟨#[]⟩, .bool false, .bool false, .slice none 0 0, .int .i64 0, .bool false, .string ⟨#[]⟩, .string ⟨#[]⟩] (ecs kr7).toArray rfl Try.underlying22 (by kernel_rfl) (by kernel_rfl) (by decide) (by decide) e (by kernel_rfl) (hK _ _ ((Turn.refl _ _).alloc _) ⟨w.heap.size, rfl, At.new _ _⟩)
set_option maxRecDepth 20000 in
theorem r8_34 : R8 34 := by
  intro o ho x0 x4 x5 x6 x7 x8 x9 x10 x18 x19 x20 x21 x22 x23 x24 x25 x26 x27 x28 x29 x30 x31 x32 x33 x34 x35 x36 x37 x38 x39 x40 x41 x42 x43 x44 x45 x46 x47 x48 x49 x50 x51 x52 x53 x54 x55 x56 x57 x58 x59 x60 x61 x62 x63 x64 x65 x66 x67 x68 x69 x70 x71 x72 x73 x74 x75 x76 x77 x78 x79 x80 x81 x82 x83 g1 g2 lb vs w kb hd K Q hK
  injection (show some _ = some o from ho) with ho
  subst ho
  obtain ⟨c33, h33, k33⟩ : ∃ b, vs 33 = .slice (some ⟨b, 0, none⟩) 3 3 ∧ At w b (.cells (ecs kr7).toArray 34 (0, 0)) := hd 33 (by kernel_rfl)
  have e : ([(0, vs 33), (1, .int .i64 2)] : List (Nat × Value)) = [(0, (.slice (some ⟨c33, 0, none⟩) 3 3)), (1, .int .i64 2)] := by rw [h33]
  exact wp_built 54 _ [(0, (.slice (some ⟨c33, 0, none⟩) 3 3)), (1, .int .i64 2)] #[.slice (some ⟨c33, 0, none⟩) 3 3, .int .i64 2] rfl e (by kernel_rfl) (hK _ w (Turn.refl _ _) ⟨c33, rfl, k33⟩)
set_option maxRecDepth 20000 in
theorem r8_35 : R8 35 := by
  intro o ho x0 x4 x5 x6 x7 x8 x9 x10 x18 x19 x20 x21 x22 x23 x24 x25 x26 x27 x28 x29 x30 x31 x32 x33 x34 x35 x36 x37 x38 x39 x40 x41 x42 x43 x44 x45 x46 x47 x48 x49 x50 x51 x52 x53 x54 x55 x56 x57 x58 x59 x60 x61 x62 x63 x64 x65 x66 x67 x68 x69 x70 x71 x72 x73 x74 x75 x76 x77 x78 x79 x80 x81 x82 x83 g1 g2 lb vs w kb hd K Q hK
  injection (show some _ = some o from ho) with ho
  subst ho
  obtain ⟨c3, h3, k3⟩ : ∃ b, vs 3 = .agg #[.slice (some ⟨b, 0, none⟩) 2 2, .int .i64 1] ∧ At w b (.cells (ecs kr0).toArray 34 (0, 0)) := hd 3 (by kernel_rfl)
  obtain ⟨c6, h6, k6⟩ : ∃ b, vs 6 = .agg #[.slice (some ⟨b, 0, none⟩) 1 1, .int .i64 0] ∧ At w b (.cells (ecs kr1).toArray 34 (0, 0)) := hd 6 (by kernel_rfl)
  obtain ⟨c10, h10, k10⟩ : ∃ b, vs 10 = .agg #[.slice (some ⟨b, 0, none⟩) 2 2, .int .i64 1] ∧ At w b (.cells (ecs kr2).toArray 34 (0, 0)) := hd 10 (by kernel_rfl)
  obtain ⟨c13, h13, k13⟩ : ∃ b, vs 13 = .agg #[.slice (some ⟨b, 0, none⟩) 1 1, .int .i64 0] ∧ At w b (.cells (ecs kr3).toArray 34 (0, 0)) := hd 13 (by kernel_rfl)
  obtain ⟨c16, h16, k16⟩ : ∃ b, vs 16 = .agg #[.slice (some ⟨b, 0, none⟩) 1 1, .int .i64 0] ∧ At w b (.cells (ecs kr4).toArray 34 (0, 0)) := hd 16 (by kernel_rfl)
  obtain ⟨c20, h20, k20⟩ : ∃ b, vs 20 = .agg #[.slice (some ⟨b, 0, none⟩) 1 1, .int .i64 0] ∧ At w b (.cells (ecs kr5).toArray 34 (0, 0)) := hd 20 (by kernel_rfl)
  obtain ⟨c25, h25, k25⟩ : ∃ b, vs 25 = .agg #[.slice (some ⟨b, 0, none⟩) 2 2, .int .i64 1] ∧ At w b (.cells (ecs kr6).toArray 34 (0, 0)) := hd 25 (by kernel_rfl)
  obtain ⟨c34, h34, k34⟩ : ∃ b, vs 34 = .agg #[.slice (some ⟨b, 0, none⟩) 3 3, .int .i64 2] ∧ At w b (.cells (ecs kr7).toArray 34 (0, 0)) := hd 34 (by kernel_rfl)
  have e : ([(0, vs 3), (1, vs 6), (2, vs 10), (3, vs 13), (4, vs 16), (5, vs 20), (6, vs 25), (7, vs 34)] : List (Nat × Value)) = [(0, (.agg #[.slice (some ⟨c3, 0, none⟩) 2 2, .int .i64 1])), (1, (.agg #[.slice (some ⟨c6, 0, none⟩) 1 1, .int .i64 0])), (2, (.agg #[.slice (some ⟨c10, 0, none⟩) 2 2, .int .i64 1])), (3, (.agg #[.slice (some ⟨c13, 0, none⟩) 1 1, .int .i64 0])), (4, (.agg #[.slice (some ⟨c16, 0, none⟩) 1 1, .int .i64 0])), (5, (.agg #[.slice (some ⟨c20, 0, none⟩) 1 1, .int .i64 0])), (6, (.agg #[.slice (some ⟨c25, 0, none⟩) 2 2, .int .i64 1])), (7, (.agg #[.slice (some ⟨c34, 0, none⟩) 3 3, .int .i64 2]))] := by rw [h3, h6, h10, h13, h16, h20, h25, h34]
  have ta : ∀ o, Turn No w (w.alloc o) := fun o => (Turn.refl _ _).alloc _
  exact wp_bs 55 54 8 2 _ [(0, (.agg #[.slice (some ⟨c3, 0, none⟩) 2 2, .int .i64 1])), (1, (.agg #[.slice (some ⟨c6, 0, none⟩) 1 1, .int .i64 0])), (2, (.agg #[.slice (some ⟨c10, 0, none⟩) 2 2, .int .i64 1])), (3, (.agg #[.slice (some ⟨c13, 0, none⟩) 1 1, .int .i64 0])), (4, (.agg #[.slice (some ⟨c16, 0, none⟩) 1 1, .int .i64 0])), (5, (.agg #[.slice (some ⟨c20, 0, none⟩) 1 1, .int .i64 0])), (6, (.agg #[.slice (some ⟨c25, 0, none⟩) 2 2, .int .i64 1])), (7, (.agg #[.slice (some ⟨c34, 0, none⟩) 3 3, .int .i64 2]))] #[.slice none 0 0, .int .i64 0] (k8c c3 c6 c10 c13 c16 c20 c25 c34) rfl Try.underlying55 (by kernel_rfl) (by kernel_rfl) (by decide) (by decide) e (by kernel_rfl) (hK _ _ (ta _) ⟨c3, c6, c10, c13, c16, c20, c25, c34, w.heap.size, rfl, k3.no (ta _), k6.no (ta _), k10.no (ta _), k13.no (ta _), k16.no (ta _), k20.no (ta _), k25.no (ta _), k34.no (ta _), At.new _ _⟩)
set_option maxRecDepth 20000 in
theorem r8_36 : R8 36 := by
  intro o ho x0 x4 x5 x6 x7 x8 x9 x10 x18 x19 x20 x21 x22 x23 x24 x25 x26 x27 x28 x29 x30 x31 x32 x33 x34 x35 x36 x37 x38 x39 x40 x41 x42 x43 x44 x45 x46 x47 x48 x49 x50 x51 x52 x53 x54 x55 x56 x57 x58 x59 x60 x61 x62 x63 x64 x65 x66 x67 x68 x69 x70 x71 x72 x73 x74 x75 x76 x77 x78 x79 x80 x81 x82 x83 g1 g2 lb vs w kb hd K Q hK
  injection (show some _ = some o from ho) with ho
  subst ho
  have e := hK (vs 35) w (Turn.refl _ _) (show G8 lb 36 w (vs 35) from (hd 35 (by kernel_rfl) : G8r w (vs 35)))
  exact wp_mv _ (.inr rfl) rfl e
theorem all8 : AllN R8 37 := ⟨⟨⟨⟨⟨⟨⟨⟨⟨⟨⟨⟨⟨⟨⟨⟨⟨⟨⟨⟨⟨⟨⟨⟨⟨⟨⟨⟨⟨⟨⟨⟨⟨⟨⟨⟨⟨trivial, r8_0⟩, r8_1⟩, r8_2⟩, r8_3⟩, r8_4⟩, r8_5⟩, r8_6⟩, r8_7⟩, r8_8⟩, r8_9⟩, r8_10⟩, r8_11⟩, r8_12⟩, r8_13⟩, r8_14⟩, r8_15⟩, r8_16⟩, r8_17⟩, r8_18⟩, r8_19⟩, r8_20⟩, r8_21⟩, r8_22⟩, r8_23⟩, r8_24⟩, r8_25⟩, r8_26⟩, r8_27⟩, r8_28⟩, r8_29⟩, r8_30⟩, r8_31⟩, r8_32⟩, r8_33⟩, r8_34⟩, r8_35⟩, r8_36⟩
theorem hput8 (x0 x4 x5 x6 x7 x8 x9 x10 x18 x19 x20 x21 x22 x23 x24 x25 x26 x27 x28 x29 x30 x31 x32 x33 x34 x35 x36 x37 x38 x39 x40 x41 x42 x43 x44 x45 x46 x47 x48 x49 x50 x51 x52 x53 x54 x55 x56 x57 x58 x59 x60 x61 x62 x63 x64 x65 x66 x67 x68 x69 x70 x71 x72 x73 x74 x75 x76 x77 x78 x79 x80 x81 x82 x83 : Value) (g1 g2 lb : Nat) (vs : Nat → Value) (v : Value) : AllN (fun i => (F8 x0 x4 x5 x6 x7 x8 x9 x10 x18 x19 x20 x21 x22 x23 x24 x25 x26 x27 x28 x29 x30 x31 x32 x33 x34 x35 x36 x37 x38 x39 x40 x41 x42 x43 x44 x45 x46 x47 x48 x49 x50 x51 x52 x53 x54 x55 x56 x57 x58 x59 x60 x61 x62 x63 x64 x65 x66 x67 x68 x69 x70 x71 x72 x73 x74 x75 x76 x77 x78 x79 x80 x81 x82 x83 g1 g2 lb vs).put (some (if Nat.beq i 36 then 11 else i + 84)) v = F8 x0 x4 x5 x6 x7 x8 x9 x10 x18 x19 x20 x21 x22 x23 x24 x25 x26 x27 x28 x29 x30 x31 x32 x33 x34 x35 x36 x37 x38 x39 x40 x41 x42 x43 x44 x45 x46 x47 x48 x49 x50 x51 x52 x53 x54 x55 x56 x57 x58 x59 x60 x61 x62 x63 x64 x65 x66 x67 x68 x69 x70 x71 x72 x73 x74 x75 x76 x77 x78 x79 x80 x81 x82 x83 g1 g2 lb (updV vs i v)) 37 := ⟨⟨⟨⟨⟨⟨⟨⟨⟨⟨⟨⟨⟨⟨⟨⟨⟨⟨⟨⟨⟨⟨⟨⟨⟨⟨⟨⟨⟨⟨⟨⟨⟨⟨⟨⟨⟨trivial, rfl⟩, rfl⟩, rfl⟩, rfl⟩, rfl⟩, rfl⟩, rfl⟩, rfl⟩, rfl⟩, rfl⟩, rfl⟩, rfl⟩, rfl⟩, rfl⟩, rfl⟩, rfl⟩, rfl⟩, rfl⟩, rfl⟩, rfl⟩, rfl⟩, rfl⟩, rfl⟩, rfl⟩, rfl⟩, rfl⟩, rfl⟩, rfl⟩, rfl⟩, rfl⟩, rfl⟩, rfl⟩, rfl⟩, rfl⟩, rfl⟩, rfl⟩, rfl⟩
theorem isSome_of {i : Nat} {o : Oper} {ops : Array Oper} (h : ops[i]? = some o) : i < ops.size := by
  obtain ⟨h, _⟩ := Array.getElem?_eq_some_iff.1 h
  exact h
theorem G8_mono (lb i : Nat) (w w' : World) (v : Value) (t : Turn No w w') (h : G8 lb i w v) : G8 lb i w' v := by
  unfold G8 at h ⊢
  split at h
  · unfold g8s at h ⊢
    repeat' (split at h)
    all_goals (try (obtain ⟨b, e, a⟩ := h; exact ⟨b, e, a.no t⟩))
    all_goals (try (obtain ⟨b0, b1, b2, b3, b4, b5, b6, b7, rb, e, a0, a1, a2, a3, a4, a5, a6, a7, a8⟩ := h; exact ⟨b0, b1, b2, b3, b4, b5, b6, b7, rb, e, a0.no t, a1.no t, a2.no t, a3.no t, a4.no t, a5.no t, a6.no t, a7.no t, a8.no t⟩))
    all_goals trivial
  · exact h
/-- The region: whatever row its operations come in, slot 11 holds the rows. -/
theorem reg8 {Q : Exit → Act → World → Prop} {x0 x4 x5 x6 x7 x8 x9 x10 x18 x19 x20 x21 x22 x23 x24 x25 x26 x27 x28 x29 x30 x31 x32 x33 x34 x35 x36 x37 x38 x39 x40 x41 x42 x43 x44 x45 x46 x47 x48 x49 x50 x51 x52 x53 x54 x55 x56 x57 x58 x59 x60 x61 x62 x63 x64 x65 x66 x67 x68 x69 x70 x71 x72 x73 x74 x75 x76 x77 x78 x79 x80 x81 x82 x83 : Value} {g1 g2 lb : Nat} {w : World} (kb : Kb w g1 g2 lb) (ops : Array Oper) (hops : ops = (((Try.f7.body).bind (regOf 8)).getD #[])) (vs0 : Nat → Value)
    (hdone : ∀ vs w', Turn No w w' → G8 lb 36 w' (vs 36) → Q .normal (F8 x0 x4 x5 x6 x7 x8 x9 x10 x18 x19 x20 x21 x22 x23 x24 x25 x26 x27 x28 x29 x30 x31 x32 x33 x34 x35 x36 x37 x38 x39 x40 x41 x42 x43 x44 x45 x46 x47 x48 x49 x50 x51 x52 x53 x54 x55 x56 x57 x58 x59 x60 x61 x62 x63 x64 x65 x66 x67 x68 x69 x70 x71 x72 x73 x74 x75 x76 x77 x78 x79 x80 x81 x82 x83 g1 g2 lb vs) w') : (Code.region 8 ops true).wp Try.prog Q (F8 x0 x4 x5 x6 x7 x8 x9 x10 x18 x19 x20 x21 x22 x23 x24 x25 x26 x27 x28 x29 x30 x31 x32 x33 x34 x35 x36 x37 x38 x39 x40 x41 x42 x43 x44 x45 x46 x47 x48 x49 x50 x51 x52 x53 x54 x55 x56 x57 x58 x59 x60 x61 x62 x63 x64 x65 x66 x67 x68 x69 x70 x71 x72 x73 x74 x75 x76 x77 x78 x79 x80 x81 x82 x83 g1 g2 lb vs0) w := by
  subst hops
  have hn : (((Try.f7.body).bind (regOf 8)).getD #[]).size = 37 := by kernel_rfl
  have hz : ((((Try.f7.body).bind (regOf 8)).getD #[]).toList.zipIdx.all fun q => (q.1.after.toList.all fun e => Nat.blt e.on q.2) && q.1.guard.isNone && (q.1.dst == some (if Nat.beq q.2 36 then 11 else q.2 + 84))) = true := by kernel_rfl
  have hall : ∀ (i : Nat) (o : Oper), (((Try.f7.body).bind (regOf 8)).getD #[])[i]? = some o → (∀ e ∈ o.after, e.on < i) ∧ o.guard = none ∧ o.dst = some (if Nat.beq i 36 then 11 else i + 84) := by
    intro i o ho
    have hm : (o, i) ∈ (((Try.f7.body).bind (regOf 8)).getD #[]).toList.zipIdx := by
      rw [List.mem_zipIdx_iff_getElem?]
      simpa using ho
    have := List.all_eq_true.1 hz _ hm
    simp only [Bool.and_eq_true, List.all_eq_true] at this
    obtain ⟨⟨h1, h2⟩, h3⟩ := this
    refine ⟨fun e he => ?_, by simpa using h2, by simpa using h3⟩
    have h4 := h1 e (by simpa using he)
    exact Nat.lt_of_succ_le (Nat.le_of_ble_eq_true h4)
  refine region_tab (F := F8 x0 x4 x5 x6 x7 x8 x9 x10 x18 x19 x20 x21 x22 x23 x24 x25 x26 x27 x28 x29 x30 x31 x32 x33 x34 x35 x36 x37 x38 x39 x40 x41 x42 x43 x44 x45 x46 x47 x48 x49 x50 x51 x52 x53 x54 x55 x56 x57 x58 x59 x60 x61 x62 x63 x64 x65 x66 x67 x68 x69 x70 x71 x72 x73 x74 x75 x76 x77 x78 x79 x80 x81 x82 x83 g1 g2 lb) (G := G8 lb) (by kernel_rfl) vs0 rfl (G8_mono lb) (fun i o ho => (hall i o ho).1) (fun i o ho => (hall i o ho).2.1) (fun i o vs v ho => ?_) (fun i o vs w' ho t hv K hK => ?_) (fun vs w' t hv => hdone vs w' t (hv 36 (by rw [hn]; decide)))
  · rw [(hall i o ho).2.2]
    have hi := isSome_of ho
    rw [hn] at hi
    exact (hput8 x0 x4 x5 x6 x7 x8 x9 x10 x18 x19 x20 x21 x22 x23 x24 x25 x26 x27 x28 x29 x30 x31 x32 x33 x34 x35 x36 x37 x38 x39 x40 x41 x42 x43 x44 x45 x46 x47 x48 x49 x50 x51 x52 x53 x54 x55 x56 x57 x58 x59 x60 x61 x62 x63 x64 x65 x66 x67 x68 x69 x70 x71 x72 x73 x74 x75 x76 x77 x78 x79 x80 x81 x82 x83 g1 g2 lb vs v).get i hi
  · have hi := isSome_of ho
    rw [hn] at hi
    refine all8.get i hi o (by unfold Is8; simpa using ho) x0 x4 x5 x6 x7 x8 x9 x10 x18 x19 x20 x21 x22 x23 x24 x25 x26 x27 x28 x29 x30 x31 x32 x33 x34 x35 x36 x37 x38 x39 x40 x41 x42 x43 x44 x45 x46 x47 x48 x49 x50 x51 x52 x53 x54 x55 x56 x57 x58 x59 x60 x61 x62 x63 x64 x65 x66 x67 x68 x69 x70 x71 x72 x73 x74 x75 x76 x77 x78 x79 x80 x81 x82 x83 g1 g2 lb vs w' (kb.no t) (fun j hj => ?_) K Q hK
    obtain ⟨e, he, h2⟩ := List.any_eq_true.1 hj
    simp only [Bool.and_eq_true] at h2
    have := hv e (by simpa using he) h2.2
    rw [Nat.eq_of_beq_eq_true h2.1] at this
    exact this
end Go.Proofs.Ythopiamiipmobaa
