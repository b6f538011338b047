/-
  OmapKnown: the region of its rows, whose order is open.
-/
import Derived.Test.YtjjmooegpoeomaaAnyTab
import Derived.Test.YtjjmooegpoeomaaWKno
import Derived.Great.BuildSlice
import Derived.Laws.MakeOwn
namespace Go.Proofs.Ytjjmooegpoeomaa
open Go.RowKit Go.Lib
set_option linter.unusedVariables false
set_option linter.unusedSimpArgs false

def regOf (id : Nat) : Code → Option (Array Oper)
  | .region i ops _ => if Nat.beq i id then some ops else none
  | .seq a b => match regOf id a with | some x => some x | none => regOf id b
  | _ => none
/-- Operation i of the region. -/
def Is3 (i : Nat) (o : Oper) : Prop := (((Try.f7.body).bind (regOf 3)).getD #[]).toList[i]? = some o
def cv3 : List Value := [
  .agg #[.int .u8 2, .string ⟨#[98]⟩, .string ⟨#[49]⟩, .string ⟨#[]⟩, .bool false, .bool false, .slice none 0 0],
  .agg #[.int .i64 0, .bool false, .string ⟨#[]⟩, .string ⟨#[]⟩],
  .agg #[.int .u8 2, .string ⟨#[98]⟩, .string ⟨#[49]⟩, .string ⟨#[]⟩, .bool false, .bool false, .slice none 0 0, .int .i64 0, .bool false, .string ⟨#[]⟩, .string ⟨#[]⟩],
  .agg #[.int .u8 2, .string ⟨#[98]⟩, .string ⟨#[50]⟩, .string ⟨#[]⟩, .bool false, .bool false, .slice none 0 0],
  .agg #[.int .i64 0, .bool true, .string ⟨#[]⟩, .string ⟨#[49]⟩],
  .agg #[.int .u8 2, .string ⟨#[98]⟩, .string ⟨#[50]⟩, .string ⟨#[]⟩, .bool false, .bool false, .slice none 0 0, .int .i64 0, .bool true, .string ⟨#[]⟩, .string ⟨#[49]⟩],
  .agg #[.int .u8 1, .string ⟨#[98]⟩, .string ⟨#[]⟩, .string ⟨#[]⟩, .bool false, .bool false, .slice none 0 0],
  .agg #[.int .i64 0, .bool true, .string ⟨#[]⟩, .string ⟨#[50]⟩],
  .agg #[.int .u8 1, .string ⟨#[98]⟩, .string ⟨#[]⟩, .string ⟨#[]⟩, .bool false, .bool false, .slice none 0 0, .int .i64 0, .bool true, .string ⟨#[]⟩, .string ⟨#[50]⟩],
  .agg #[.int .u8 1, .string ⟨#[99]⟩, .string ⟨#[]⟩, .string ⟨#[]⟩, .bool false, .bool false, .slice none 0 0],
  .agg #[.int .i64 0, .bool false, .string ⟨#[]⟩, .string ⟨#[]⟩],
  .agg #[.int .u8 1, .string ⟨#[99]⟩, .string ⟨#[]⟩, .string ⟨#[]⟩, .bool false, .bool false, .slice none 0 0, .int .i64 0, .bool false, .string ⟨#[]⟩, .string ⟨#[]⟩],
  .agg #[.int .u8 4, .string ⟨#[98]⟩, .string ⟨#[51]⟩, .string ⟨#[50]⟩, .bool true, .bool false, .slice none 0 0],
  .agg #[.int .i64 0, .bool true, .string ⟨#[]⟩, .string ⟨#[50]⟩],
  .agg #[.int .u8 4, .string ⟨#[98]⟩, .string ⟨#[51]⟩, .string ⟨#[50]⟩, .bool true, .bool false, .slice none 0 0, .int .i64 0, .bool true, .string ⟨#[]⟩, .string ⟨#[50]⟩],
  .agg #[.int .u8 4, .string ⟨#[98]⟩, .string ⟨#[52]⟩, .string ⟨#[50]⟩, .bool true, .bool false, .slice none 0 0],
  .agg #[.int .i64 0, .bool false, .string ⟨#[]⟩, .string ⟨#[51]⟩],
  .agg #[.int .u8 4, .string ⟨#[98]⟩, .string ⟨#[52]⟩, .string ⟨#[50]⟩, .bool true, .bool false, .slice none 0 0, .int .i64 0, .bool false, .string ⟨#[]⟩, .string ⟨#[51]⟩],
  .agg #[.int .u8 4, .string ⟨#[99]⟩, .string ⟨#[53]⟩, .string ⟨#[]⟩, .bool false, .bool false, .slice none 0 0],
  .agg #[.int .i64 0, .bool true, .string ⟨#[]⟩, .string ⟨#[]⟩],
  .agg #[.int .u8 4, .string ⟨#[99]⟩, .string ⟨#[53]⟩, .string ⟨#[]⟩, .bool false, .bool false, .slice none 0 0, .int .i64 0, .bool true, .string ⟨#[]⟩, .string ⟨#[]⟩],
  .agg #[.int .u8 4, .string ⟨#[99]⟩, .string ⟨#[54]⟩, .string ⟨#[]⟩, .bool false, .bool false, .slice none 0 0],
  .agg #[.int .i64 0, .bool false, .string ⟨#[]⟩, .string ⟨#[53]⟩],
  .agg #[.int .u8 4, .string ⟨#[99]⟩, .string ⟨#[54]⟩, .string ⟨#[]⟩, .bool false, .bool false, .slice none 0 0, .int .i64 0, .bool false, .string ⟨#[]⟩, .string ⟨#[53]⟩],
  .agg #[.int .u8 5, .string ⟨#[97]⟩, .string ⟨#[]⟩, .string ⟨#[]⟩, .bool false, .bool false, .slice none 0 0],
  .agg #[.int .i64 0, .bool true, .string ⟨#[98]⟩, .string ⟨#[51]⟩],
  .agg #[.int .u8 5, .string ⟨#[97]⟩, .string ⟨#[]⟩, .string ⟨#[]⟩, .bool false, .bool false, .slice none 0 0, .int .i64 0, .bool true, .string ⟨#[98]⟩, .string ⟨#[51]⟩],
  .agg #[.int .u8 5, .string ⟨#[98]⟩, .string ⟨#[]⟩, .string ⟨#[]⟩, .bool false, .bool true, .slice none 0 0],
  .agg #[.int .i64 0, .bool true, .string ⟨#[99]⟩, .string ⟨#[53]⟩],
  .agg #[.int .u8 5, .string ⟨#[98]⟩, .string ⟨#[]⟩, .string ⟨#[]⟩, .bool false, .bool true, .slice none 0 0, .int .i64 0, .bool true, .string ⟨#[99]⟩, .string ⟨#[53]⟩],
  .agg #[.int .u8 5, .string ⟨#[99]⟩, .string ⟨#[]⟩, .string ⟨#[]⟩, .bool false, .bool true, .slice none 0 0],
  .agg #[.int .i64 0, .bool false, .string ⟨#[]⟩, .string ⟨#[]⟩],
  .agg #[.int .u8 5, .string ⟨#[99]⟩, .string ⟨#[]⟩, .string ⟨#[]⟩, .bool false, .bool true, .slice none 0 0, .int .i64 0, .bool false, .string ⟨#[]⟩, .string ⟨#[]⟩],
  .agg #[.string ⟨#[98]⟩, .string ⟨#[]⟩, .bool true],
  .agg #[.string ⟨#[100]⟩, .string ⟨#[55]⟩, .bool false],
  .agg #[.string ⟨#[100]⟩, .string ⟨#[56]⟩, .bool false],
  undef,
  undef,
  .agg #[.int .i64 0, .bool false, .string ⟨#[]⟩, .string ⟨#[]⟩],
  undef,
  undef,
  undef,
  .agg #[.int .i64 3, .bool false, .string ⟨#[]⟩, .string ⟨#[]⟩],
  undef,
  .agg #[.int .u8 9, .string ⟨#[]⟩, .string ⟨#[]⟩, .string ⟨#[]⟩, .bool false, .bool false, .slice none 0 0],
  .agg #[.int .i64 20, .bool false, .string ⟨#[]⟩, .string ⟨#[]⟩],
  .agg #[.int .u8 9, .string ⟨#[]⟩, .string ⟨#[]⟩, .string ⟨#[]⟩, .bool false, .bool false, .slice none 0 0, .int .i64 20, .bool false, .string ⟨#[]⟩, .string ⟨#[]⟩],
  .agg #[.int .u8 0, .string ⟨#[]⟩, .string ⟨#[]⟩, .string ⟨#[]⟩, .bool false, .bool false, .slice none 0 0],
  .agg #[.int .i64 20, .bool false, .string ⟨#[]⟩, .string ⟨#[]⟩],
  .agg #[.int .u8 0, .string ⟨#[]⟩, .string ⟨#[]⟩, .string ⟨#[]⟩, .bool false, .bool false, .slice none 0 0, .int .i64 20, .bool false, .string ⟨#[]⟩, .string ⟨#[]⟩],
  .string ⟨#[48, 49, 50, 51, 52, 53, 54, 55, 56, 57, 48, 49, 50, 51, 52, 53, 54, 55, 56, 57, 48, 49, 50, 51, 52, 53, 54, 55, 56, 57, 48, 49, 50, 51]⟩,
  .string ⟨#[48, 49, 50, 51, 52, 53, 54, 55, 56, 57, 48, 49, 50, 51, 52, 53, 54, 55, 56, 57, 48, 49, 50, 51]⟩,
  .string ⟨#[48, 49, 50, 51, 52, 53, 54, 55, 56, 57, 48, 49, 50, 51, 52, 53, 54, 55, 56, 57, 48, 49, 50, 51, 52, 53, 54, 55, 56, 57, 48, 49, 50, 51]⟩,
  .string ⟨#[48, 49, 50, 51, 52, 53, 54, 55, 56, 57, 48, 49, 50, 51, 52, 53, 54, 55, 56, 57, 48, 49, 50, 51, 52, 53, 54, 55, 56, 57, 48, 49]⟩,
  .agg #[.int .u8 2, .string ⟨#[48, 49, 50, 51, 52, 53, 54, 55, 56, 57, 48, 49, 50, 51, 52, 53, 54, 55, 56, 57, 48, 49, 50, 51]⟩, .string ⟨#[48, 49, 50, 51, 52, 53, 54, 55, 56, 57, 48, 49, 50, 51, 52, 53, 54, 55, 56, 57, 48, 49, 50, 51, 52, 53, 54, 55, 56, 57, 48, 49]⟩, .string ⟨#[]⟩, .bool false, .bool false, .slice none 0 0],
  .agg #[.int .i64 0, .bool false, .string ⟨#[]⟩, .string ⟨#[]⟩],
  .agg #[.int .u8 2, .string ⟨#[48, 49, 50, 51, 52, 53, 54, 55, 56, 57, 48, 49, 50, 51, 52, 53, 54, 55, 56, 57, 48, 49, 50, 51]⟩, .string ⟨#[48, 49, 50, 51, 52, 53, 54, 55, 56, 57, 48, 49, 50, 51, 52, 53, 54, 55, 56, 57, 48, 49, 50, 51, 52, 53, 54, 55, 56, 57, 48, 49]⟩, .string ⟨#[]⟩, .bool false, .bool false, .slice none 0 0, .int .i64 0, .bool false, .string ⟨#[]⟩, .string ⟨#[]⟩],
  .string ⟨#[48, 49, 50, 51, 52, 53, 54, 55, 56, 57, 48, 49, 50, 51, 52, 53, 54, 55, 56, 57, 48, 49, 50, 51, 52, 53, 54, 55, 56, 57, 48, 49, 50, 51]⟩,
  .string ⟨#[48, 49, 50, 51, 52, 53, 54, 55, 56, 57, 48, 49, 50, 51, 52, 53, 54, 55, 56, 57, 48, 49, 50, 51, 52]⟩,
  .agg #[.int .u8 2, .string ⟨#[48, 49, 50, 51, 52, 53, 54, 55, 56, 57, 48, 49, 50, 51, 52, 53, 54, 55, 56, 57, 48, 49, 50, 51, 52]⟩, .string ⟨#[]⟩, .string ⟨#[]⟩, .bool false, .bool false, .slice none 0 0],
  .agg #[.int .i64 7, .bool false, .string ⟨#[]⟩, .string ⟨#[]⟩],
  .agg #[.int .u8 2, .string ⟨#[48, 49, 50, 51, 52, 53, 54, 55, 56, 57, 48, 49, 50, 51, 52, 53, 54, 55, 56, 57, 48, 49, 50, 51, 52]⟩, .string ⟨#[]⟩, .string ⟨#[]⟩, .bool false, .bool false, .slice none 0 0, .int .i64 7, .bool false, .string ⟨#[]⟩, .string ⟨#[]⟩],
  .string ⟨#[48, 49, 50, 51, 52, 53, 54, 55, 56, 57, 48, 49, 50, 51, 52, 53, 54, 55, 56, 57, 48, 49, 50, 51, 52, 53, 54, 55, 56, 57, 48, 49, 50, 51]⟩,
  .string ⟨#[48, 49, 50, 51, 52, 53, 54, 55, 56, 57, 48, 49, 50, 51, 52, 53, 54, 55, 56, 57, 48, 49, 50, 51, 52, 53, 54, 55, 56, 57, 48, 49, 50]⟩,
  .agg #[.int .u8 2, .string ⟨#[107]⟩, .string ⟨#[48, 49, 50, 51, 52, 53, 54, 55, 56, 57, 48, 49, 50, 51, 52, 53, 54, 55, 56, 57, 48, 49, 50, 51, 52, 53, 54, 55, 56, 57, 48, 49, 50]⟩, .string ⟨#[]⟩, .bool false, .bool false, .slice none 0 0],
  .agg #[.int .i64 7, .bool false, .string ⟨#[]⟩, .string ⟨#[]⟩],
  .agg #[.int .u8 2, .string ⟨#[107]⟩, .string ⟨#[48, 49, 50, 51, 52, 53, 54, 55, 56, 57, 48, 49, 50, 51, 52, 53, 54, 55, 56, 57, 48, 49, 50, 51, 52, 53, 54, 55, 56, 57, 48, 49, 50]⟩, .string ⟨#[]⟩, .bool false, .bool false, .slice none 0 0, .int .i64 7, .bool false, .string ⟨#[]⟩, .string ⟨#[]⟩],
  .string ⟨#[48, 49, 50, 51, 52, 53, 54, 55, 56, 57, 48, 49, 50, 51, 52, 53, 54, 55, 56, 57, 48, 49, 50, 51, 52, 53, 54, 55, 56, 57, 48, 49, 50, 51]⟩,
  .string ⟨#[48, 49, 50, 51, 52, 53, 54, 55, 56, 57, 48, 49, 50, 51, 52, 53, 54, 55, 56, 57, 48, 49, 50, 51]⟩,
  .agg #[.int .u8 3, .string ⟨#[48, 49, 50, 51, 52, 53, 54, 55, 56, 57, 48, 49, 50, 51, 52, 53, 54, 55, 56, 57, 48, 49, 50, 51]⟩, .string ⟨#[]⟩, .string ⟨#[]⟩, .bool false, .bool false, .slice none 0 0],
  .string ⟨#[48, 49, 50, 51, 52, 53, 54, 55, 56, 57, 48, 49, 50, 51, 52, 53, 54, 55, 56, 57, 48, 49, 50, 51, 52, 53, 54, 55, 56, 57, 48, 49, 50, 51]⟩,
  .string ⟨#[48, 49, 50, 51, 52, 53, 54, 55, 56, 57, 48, 49, 50, 51, 52, 53, 54, 55, 56, 57, 48, 49, 50, 51, 52, 53, 54, 55, 56, 57, 48, 49]⟩,
  .agg #[.int .i64 0, .bool true, .string ⟨#[]⟩, .string ⟨#[48, 49, 50, 51, 52, 53, 54, 55, 56, 57, 48, 49, 50, 51, 52, 53, 54, 55, 56, 57, 48, 49, 50, 51, 52, 53, 54, 55, 56, 57, 48, 49]⟩],
  .agg #[.int .u8 3, .string ⟨#[48, 49, 50, 51, 52, 53, 54, 55, 56, 57, 48, 49, 50, 51, 52, 53, 54, 55, 56, 57, 48, 49, 50, 51]⟩, .string ⟨#[]⟩, .string ⟨#[]⟩, .bool false, .bool false, .slice none 0 0, .int .i64 0, .bool true, .string ⟨#[]⟩, .string ⟨#[48, 49, 50, 51, 52, 53, 54, 55, 56, 57, 48, 49, 50, 51, 52, 53, 54, 55, 56, 57, 48, 49, 50, 51, 52, 53, 54, 55, 56, 57, 48, 49]⟩],
  undef,
  undef]
def g3s (i : Nat) (w : World) (v : Value) : Prop := match Nat.beq i 36 with | true => (∃ b, v = .slice (some ⟨b, 0, none⟩) 3 3 ∧ At w b (.cells (wcs kw3).toArray 46 (0, 0))) | false => (match Nat.beq i 37 with | true => (∃ b, v = .agg #[.int .u8 6, .string ⟨#[]⟩, .string ⟨#[]⟩, .string ⟨#[]⟩, .bool false, .bool false, .slice (some ⟨b, 0, none⟩) 3 3] ∧ At w b (.cells (wcs kw3).toArray 46 (0, 0))) | false => (match Nat.beq i 39 with | true => (∃ b, v = .agg #[.int .u8 6, .string ⟨#[]⟩, .string ⟨#[]⟩, .string ⟨#[]⟩, .bool false, .bool false, .slice (some ⟨b, 0, none⟩) 3 3, .int .i64 0, .bool false, .string ⟨#[]⟩, .string ⟨#[]⟩] ∧ At w b (.cells (wcs kw3).toArray 46 (0, 0))) | false => (match Nat.beq i 40 with | true => (∃ b, v = .slice (some ⟨b, 0, none⟩) 9 9 ∧ At w b (.cells (wcs kw9).toArray 46 (0, 0))) | false => (match Nat.beq i 41 with | true => (∃ b, v = .agg #[.int .u8 6, .string ⟨#[]⟩, .string ⟨#[]⟩, .string ⟨#[]⟩, .bool false, .bool false, .slice (some ⟨b, 0, none⟩) 9 9] ∧ At w b (.cells (wcs kw9).toArray 46 (0, 0))) | false => (match Nat.beq i 43 with | true => (∃ b, v = .agg #[.int .u8 6, .string ⟨#[]⟩, .string ⟨#[]⟩, .string ⟨#[]⟩, .bool false, .bool false, .slice (some ⟨b, 0, none⟩) 9 9, .int .i64 3, .bool false, .string ⟨#[]⟩, .string ⟨#[]⟩] ∧ At w b (.cells (wcs kw9).toArray 46 (0, 0))) | false => (match Nat.beq i 74 with | true => (∃ wb zb rb, v = .slice (some ⟨rb, 0, none⟩) 19 19 ∧ At w wb (.cells (wcs kw3).toArray 46 (0, 0)) ∧ At w zb (.cells (wcs kw9).toArray 46 (0, 0)) ∧ At w rb (.cells (kcs (krs wb zb)).toArray 52 (0, 0))) | false => (match Nat.beq i 75 with | true => (∃ wb zb rb, v = .slice (some ⟨rb, 0, none⟩) 19 19 ∧ At w wb (.cells (wcs kw3).toArray 46 (0, 0)) ∧ At w zb (.cells (wcs kw9).toArray 46 (0, 0)) ∧ At w rb (.cells (kcs (krs wb zb)).toArray 52 (0, 0))) | false => (True))))))))
def G3 (i : Nat) (w : World) (v : Value) : Prop := match (Nat.beq i 36 || Nat.beq i 37 || Nat.beq i 39 || Nat.beq i 40 || Nat.beq i 41 || Nat.beq i 43 || Nat.beq i 74 || Nat.beq i 75) with
  | true => g3s i w v
  | false => v = cv3.getD i undef
/-- The frame. -/
def F3 (p : Value) (vs : Nat → Value) : Act := { tmps := #[.bool false, p, .string ⟨#[48, 49, 50, 51, 52, 53, 54, 55, 56, 57, 48, 49, 50, 51, 52, 53, 54, 55, 56, 57, 48, 49, 50, 51, 52, 53, 54, 55, 56, 57, 48, 49, 50, 51]⟩, vs 75, undef, undef, p, vs 0, vs 1, vs 2, vs 3, vs 4, vs 5, vs 6, vs 7, vs 8, vs 9, vs 10, vs 11, vs 12, vs 13, vs 14, vs 15, vs 16, vs 17, vs 18, vs 19, vs 20, vs 21, vs 22, vs 23, vs 24, vs 25, vs 26, vs 27, vs 28, vs 29, vs 30, vs 31, vs 32, vs 33, vs 34, vs 35, vs 36, vs 37, vs 38, vs 39, vs 40, vs 41, vs 42, vs 43, vs 44, vs 45, vs 46, vs 47, vs 48, vs 49, vs 50, vs 51, vs 52, vs 53, vs 54, vs 55, vs 56, vs 57, vs 58, vs 59, vs 60, vs 61, vs 62, vs 63, vs 64, vs 65, vs 66, vs 67, vs 68, vs 69, vs 70, vs 71, vs 72, vs 73, vs 74, undef, undef, undef, undef, undef, undef, undef, undef, undef, undef, undef, undef, undef, undef, undef, undef, undef, undef, undef, undef, undef, undef, undef, undef, undef, undef, undef, undef, undef, undef, undef, undef, undef, undef, undef, undef, undef, undef, undef, undef, undef, undef, undef, undef, undef, undef], defers := [] }
def AllN (p : Nat → Prop) : Nat → Prop
  | 0 => True
  | n + 1 => AllN p n ∧ p n
theorem AllN.get {p : Nat → Prop} : ∀ {n : Nat}, AllN p n → ∀ i, i < n → p i
  | n + 1, h, i, hi => by
    rcases Nat.lt_succ_iff_lt_or_eq.1 hi with h1 | h1
    · exact AllN.get h.1 i h1
    · rw [h1]; exact h.2
/-- One operation runs. -/
def R3 (i : Nat) : Prop := ∀ (o : Oper), Is3 i o → ∀ (p : Value) (vs : Nat → Value) (w : World), (∀ j, (o.after.toList.any fun e => Nat.beq e.on j && Region.binds .any e) = true → G3 j w (vs j)) →
  ∀ (K : Act → World → Prop) (Q : Exit → Act → World → Prop), (∀ v w2, Turn No w w2 → G3 i w2 v → K ((F3 p vs).put o.dst v) w2) → Oper.wp Try.prog o (F3 p vs) w K Q
theorem wp_built {P : Program} {o : Oper} {a : Act} {w : World} {K : Act → World → Prop} {Q : Exit → Act → World → Prop} (t : TypeId) (parts : Array (Nat × Operand)) (ls : List (Nat × Value)) (cells : Array Value) (ho : o.op = .build t parts)
    (hl : parts.toList.map (fun x => (x.1, a.eval x.2)) = ls) (hb : P.built t ls = some cells) (h : K (a.put o.dst (.agg cells)) w) : o.wp P a w K Q :=
  have hl2 : (parts.map fun (i, x) => (i, a.eval x)).toList = ls := by rw [← hl, Array.toList_map]
  wp_build t parts ho (by rw [hl2, hb]; rfl) (by rw [hl2, hb]; exact h)
theorem wp_mv {P : Program} {o : Oper} {a : Act} {w : World} {K : Act → World → Prop} {Q : Exit → Act → World → Prop} {v : Value} (x : Operand) (h : o.op = .move x ∨ o.op = .assign x) (hv : a.eval x = v) (hk : K (a.put o.dst v) w) : o.wp P a w K Q := by
  subst hv
  unfold Oper.wp execOp
  rcases h with h | h <;> (rw [h]; exact hk)
theorem wp_sl {P : Program} {o : Oper} {a : Act} {w : World} {K : Act → World → Prop} {Q : Exit → Act → World → Prop} {v u : Value} (t : TypeId) (x y : Operand) (ho : o.op = .slice t x none (some y) none) (hx : a.eval x = u) (h : (Instr.sliceAt t u none (some (a.eval y)) none).run P w = .ok v w) (hk : K (a.put o.dst v) w) : o.wp P a w K Q := by
  subst hx
  unfold Oper.wp execOp
  rw [ho]
  simp only [Option.map_some, Option.map_none, Sem.run_bind, h, Result.andThen_ok]
  exact hk
theorem wp_bs {P : Program} {o : Oper} {a : Act} {w : World} {K : Act → World → Prop} {Q : Exit → Act → World → Prop} (t e : TypeId) (len n : Nat) (parts : Array (Nat × Operand)) (ls : List (Nat × Value)) (zc cells : Array Value) (ho : o.op = .buildSlice t len parts)
    (hu : P.underlying t = some (.slice e)) (hsz : (P.info? e).map (·.size) = some n) (hz : ((P.info? e).bind (·.zero)).map (·.cells) = some zc) (hsmall : ¬ len * n > 2 ^ 24) (hpos : ¬ len * n = 0) (hl : parts.toList.map (fun x => (x.1, a.eval x.2)) = ls)
    (hf : Instr.fill (fun i => some (i * n, n)) ((Array.range (len * n)).map (zc[· % zc.size]!)) ls = some cells)
    (h : K (a.put o.dst (.slice (some ⟨w.heap.size, 0, none⟩) len len)) (w.alloc (.cells cells e))) : o.wp P a w K Q := by
  obtain ⟨ie, hie, hn⟩ := Option.map_eq_some_iff.1 hsz
  obtain ⟨z, hz1, hz2⟩ := Option.map_eq_some_iff.1 hz
  rw [hie] at hz1
  subst hn hz2
  refine wp_buildSlice t e len parts ho cells ie z hu hie hz1 hsmall hpos ?_ h
  rw [Array.toList_map]
  exact (congrArg _ hl).trans hf
theorem wp_ms {P : Program} {o : Oper} {a : Act} {w : World} {K : Act → World → Prop} {Q : Exit → Act → World → Prop} (t e : TypeId) (n b : Nat) (l : Int) (x y : Operand) (zc : Array Value) (ho : o.op = .makeSlice t x y)
    (hu : P.underlying t = some (.slice e)) (hsz : (P.info? e).map (fun i => (i.size, i.bytes)) = some (n, b)) (hz : ((P.info? e).bind (·.zero)).map (·.cells) = some zc) (hx : a.eval x = .int .i64 l) (hy : a.eval y = .int .i64 l)
    (h0 : 0 ≤ l) (h1 : l.toNat * n ≤ 16777216) (h2 : (b : Int) * l ≤ 281474976710656) (h3 : l ≤ 9223372036854775807) {cells : Array Value} (hc : madeCells zc (l.toNat * n) = cells)
    (h : K (a.put o.dst (.slice (some ⟨w.heap.size, 0, none⟩) l.toNat l.toNat)) (w.alloc (.cells cells e))) : o.wp P a w K Q := by
  subst hc
  obtain ⟨ie, hie, hn⟩ := Option.map_eq_some_iff.1 hsz
  obtain ⟨z, hz1, hz2⟩ := Option.map_eq_some_iff.1 hz
  rw [hie] at hz1
  injection hn with hn hb
  subst hn hz2 hb
  have := run_makeSlice (P := P) (w := w) t e ie z hu hie hz1 .i64 .i64 l l h0 (Int.le_refl _) h1 h2 h3
  unfold Oper.wp execOp
  rw [ho]
  simp only [hx, hy, Sem.run_bind, this, Result.andThen_ok]
  exact h
theorem wp_run {P : Program} {o : Oper} {a : Act} {w w2 : World} {v : Value} {K : Act → World → Prop} {Q : Exit → Act → World → Prop} (h : (execOp a.eval o).run P w = .ok (.value v) w2) (hk : K (a.put o.dst v) w2) : o.wp P a w K Q := by
  unfold Oper.wp
  rw [h]
  exact hk
set_option maxRecDepth 20000 in
theorem r3_0 : R3 0 := by
  intro o ho p vs w hd K Q hK
  injection (show some _ = some o from ho) with ho
  subst ho
  exact wp_built 39 _ [(0, .int .u8 2), (1, .string ⟨#[98]⟩), (2, .string ⟨#[49]⟩)] #[.int .u8 2, .string ⟨#[98]⟩, .string ⟨#[49]⟩, .string ⟨#[]⟩, .bool false, .bool false, .slice none 0 0] rfl rfl (by kernel_rfl) (hK _ w (Turn.refl _ _) (show G3 0 w (.agg #[.int .u8 2, .string ⟨#[98]⟩, .string ⟨#[49]⟩, .string ⟨#[]⟩, .bool false, .bool false, .slice none 0 0]) from (rfl : (.agg #[.int .u8 2, .string ⟨#[98]⟩, .string ⟨#[49]⟩, .string ⟨#[]⟩, .bool false, .bool false, .slice none 0 0] : Value) = (.agg #[.int .u8 2, .string ⟨#[98]⟩, .string ⟨#[49]⟩, .string ⟨#[]⟩, .bool false, .bool false, .slice none 0 0] : Value))))
set_option maxRecDepth 20000 in
theorem r3_1 : R3 1 := by
  intro o ho p vs w hd K Q hK
  injection (show some _ = some o from ho) with ho
  subst ho
  exact wp_built 35 _ [] #[.int .i64 0, .bool false, .string ⟨#[]⟩, .string ⟨#[]⟩] rfl rfl (by kernel_rfl) (hK _ w (Turn.refl _ _) (show G3 1 w (.agg #[.int .i64 0, .bool false, .string ⟨#[]⟩, .string ⟨#[]⟩]) from (rfl : (.agg #[.int .i64 0, .bool false, .string ⟨#[]⟩, .string ⟨#[]⟩] : Value) = (.agg #[.int .i64 0, .bool false, .string ⟨#[]⟩, .string ⟨#[]⟩] : Value))))
set_option maxRecDepth 20000 in
theorem r3_2 : R3 2 := by
  intro o ho p vs w hd K Q hK
  injection (show some _ = some o from ho) with ho
  subst ho
  have h0 : vs 0 = .agg #[.int .u8 2, .string ⟨#[98]⟩, .string ⟨#[49]⟩, .string ⟨#[]⟩, .bool false, .bool false, .slice none 0 0] := hd 0 (by kernel_rfl)
  have h1 : vs 1 = .agg #[.int .i64 0, .bool false, .string ⟨#[]⟩, .string ⟨#[]⟩] := hd 1 (by kernel_rfl)
  have e : ([(0, vs 0), (1, vs 1)] : List (Nat × Value)) = [(0, (.agg #[.int .u8 2, .string ⟨#[98]⟩, .string ⟨#[49]⟩, .string ⟨#[]⟩, .bool false, .bool false, .slice none 0 0])), (1, (.agg #[.int .i64 0, .bool false, .string ⟨#[]⟩, .string ⟨#[]⟩]))] := by rw [h0, h1]
  exact wp_built 52 _ [(0, (.agg #[.int .u8 2, .string ⟨#[98]⟩, .string ⟨#[49]⟩, .string ⟨#[]⟩, .bool false, .bool false, .slice none 0 0])), (1, (.agg #[.int .i64 0, .bool false, .string ⟨#[]⟩, .string ⟨#[]⟩]))] #[.int .u8 2, .string ⟨#[98]⟩, .string ⟨#[49]⟩, .string ⟨#[]⟩, .bool false, .bool false, .slice none 0 0, .int .i64 0, .bool false, .string ⟨#[]⟩, .string ⟨#[]⟩] rfl e (by kernel_rfl) (hK _ w (Turn.refl _ _) (show G3 2 w (.agg #[.int .u8 2, .string ⟨#[98]⟩, .string ⟨#[49]⟩, .string ⟨#[]⟩, .bool false, .bool false, .slice none 0 0, .int .i64 0, .bool false, .string ⟨#[]⟩, .string ⟨#[]⟩]) from (rfl : (.agg #[.int .u8 2, .string ⟨#[98]⟩, .string ⟨#[49]⟩, .string ⟨#[]⟩, .bool false, .bool false, .slice none 0 0, .int .i64 0, .bool false, .string ⟨#[]⟩, .string ⟨#[]⟩] : Value) = (.agg #[.int .u8 2, .string ⟨#[98]⟩, .string ⟨#[49]⟩, .string ⟨#[]⟩, .bool false, .bool false, .slice none 0 0, .int .i64 0, .bool false, .string ⟨#[]⟩, .string ⟨#[]⟩] : Value))))
set_option maxRecDepth 20000 in
theorem r3_3 : R3 3 := by
  intro o ho p vs w hd K Q hK
  injection (show some _ = some o from ho) with ho
  subst ho
  exact wp_built 39 _ [(0, .int .u8 2), (1, .string ⟨#[98]⟩), (2, .string ⟨#[50]⟩)] #[.int .u8 2, .string ⟨#[98]⟩, .string ⟨#[50]⟩, .string ⟨#[]⟩, .bool false, .bool false, .slice none 0 0] rfl rfl (by kernel_rfl) (hK _ w (Turn.refl _ _) (show G3 3 w (.agg #[.int .u8 2, .string ⟨#[98]⟩, .string ⟨#[50]⟩, .string ⟨#[]⟩, .bool false, .bool false, .slice none 0 0]) from (rfl : (.agg #[.int .u8 2, .string ⟨#[98]⟩, .string ⟨#[50]⟩, .string ⟨#[]⟩, .bool false, .bool false, .slice none 0 0] : Value) = (.agg #[.int .u8 2, .string ⟨#[98]⟩, .string ⟨#[50]⟩, .string ⟨#[]⟩, .bool false, .bool false, .slice none 0 0] : Value))))
set_option maxRecDepth 20000 in
theorem r3_4 : R3 4 := by
  intro o ho p vs w hd K Q hK
  injection (show some _ = some o from ho) with ho
  subst ho
  exact wp_built 35 _ [(1, .bool true), (3, .string ⟨#[49]⟩)] #[.int .i64 0, .bool true, .string ⟨#[]⟩, .string ⟨#[49]⟩] rfl rfl (by kernel_rfl) (hK _ w (Turn.refl _ _) (show G3 4 w (.agg #[.int .i64 0, .bool true, .string ⟨#[]⟩, .string ⟨#[49]⟩]) from (rfl : (.agg #[.int .i64 0, .bool true, .string ⟨#[]⟩, .string ⟨#[49]⟩] : Value) = (.agg #[.int .i64 0, .bool true, .string ⟨#[]⟩, .string ⟨#[49]⟩] : Value))))
set_option maxRecDepth 20000 in
theorem r3_5 : R3 5 := by
  intro o ho p vs w hd K Q hK
  injection (show some _ = some o from ho) with ho
  subst ho
  have h3 : vs 3 = .agg #[.int .u8 2, .string ⟨#[98]⟩, .string ⟨#[50]⟩, .string ⟨#[]⟩, .bool false, .bool false, .slice none 0 0] := hd 3 (by kernel_rfl)
  have h4 : vs 4 = .agg #[.int .i64 0, .bool true, .string ⟨#[]⟩, .string ⟨#[49]⟩] := hd 4 (by kernel_rfl)
  have e : ([(0, vs 3), (1, vs 4)] : List (Nat × Value)) = [(0, (.agg #[.int .u8 2, .string ⟨#[98]⟩, .string ⟨#[50]⟩, .string ⟨#[]⟩, .bool false, .bool false, .slice none 0 0])), (1, (.agg #[.int .i64 0, .bool true, .string ⟨#[]⟩, .string ⟨#[49]⟩]))] := by rw [h3, h4]
  exact wp_built 52 _ [(0, (.agg #[.int .u8 2, .string ⟨#[98]⟩, .string ⟨#[50]⟩, .string ⟨#[]⟩, .bool false, .bool false, .slice none 0 0])), (1, (.agg #[.int .i64 0, .bool true, .string ⟨#[]⟩, .string ⟨#[49]⟩]))] #[.int .u8 2, .string ⟨#[98]⟩, .string ⟨#[50]⟩, .string ⟨#[]⟩, .bool false, .bool false, .slice none 0 0, .int .i64 0, .bool true, .string ⟨#[]⟩, .string ⟨#[49]⟩] rfl e (by kernel_rfl) (hK _ w (Turn.refl _ _) (show G3 5 w (.agg #[.int .u8 2, .string ⟨#[98]⟩, .string ⟨#[50]⟩, .string ⟨#[]⟩, .bool false, .bool false, .slice none 0 0, .int .i64 0, .bool true, .string ⟨#[]⟩, .string ⟨#[49]⟩]) from (rfl : (.agg #[.int .u8 2, .string ⟨#[98]⟩, .string ⟨#[50]⟩, .string ⟨#[]⟩, .bool false, .bool false, .slice none 0 0, .int .i64 0, .bool true, .string ⟨#[]⟩, .string ⟨#[49]⟩] : Value) = (.agg #[.int .u8 2, .string ⟨#[98]⟩, .string ⟨#[50]⟩, .string ⟨#[]⟩, .bool false, .bool false, .slice none 0 0, .int .i64 0, .bool true, .string ⟨#[]⟩, .string ⟨#[49]⟩] : Value))))
set_option maxRecDepth 20000 in
theorem r3_6 : R3 6 := by
  intro o ho p vs w hd K Q hK
  injection (show some _ = some o from ho) with ho
  subst ho
  exact wp_built 39 _ [(0, .int .u8 1), (1, .string ⟨#[98]⟩)] #[.int .u8 1, .string ⟨#[98]⟩, .string ⟨#[]⟩, .string ⟨#[]⟩, .bool false, .bool false, .slice none 0 0] rfl rfl (by kernel_rfl) (hK _ w (Turn.refl _ _) (show G3 6 w (.agg #[.int .u8 1, .string ⟨#[98]⟩, .string ⟨#[]⟩, .string ⟨#[]⟩, .bool false, .bool false, .slice none 0 0]) from (rfl : (.agg #[.int .u8 1, .string ⟨#[98]⟩, .string ⟨#[]⟩, .string ⟨#[]⟩, .bool false, .bool false, .slice none 0 0] : Value) = (.agg #[.int .u8 1, .string ⟨#[98]⟩, .string ⟨#[]⟩, .string ⟨#[]⟩, .bool false, .bool false, .slice none 0 0] : Value))))
set_option maxRecDepth 20000 in
theorem r3_7 : R3 7 := by
  intro o ho p vs w hd K Q hK
  injection (show some _ = some o from ho) with ho
  subst ho
  exact wp_built 35 _ [(1, .bool true), (3, .string ⟨#[50]⟩)] #[.int .i64 0, .bool true, .string ⟨#[]⟩, .string ⟨#[50]⟩] rfl rfl (by kernel_rfl) (hK _ w (Turn.refl _ _) (show G3 7 w (.agg #[.int .i64 0, .bool true, .string ⟨#[]⟩, .string ⟨#[50]⟩]) from (rfl : (.agg #[.int .i64 0, .bool true, .string ⟨#[]⟩, .string ⟨#[50]⟩] : Value) = (.agg #[.int .i64 0, .bool true, .string ⟨#[]⟩, .string ⟨#[50]⟩] : Value))))
set_option maxRecDepth 20000 in
theorem r3_8 : R3 8 := by
  intro o ho p vs w hd K Q hK
  injection (show some _ = some o from ho) with ho
  subst ho
  have h6 : vs 6 = .agg #[.int .u8 1, .string ⟨#[98]⟩, .string ⟨#[]⟩, .string ⟨#[]⟩, .bool false, .bool false, .slice none 0 0] := hd 6 (by kernel_rfl)
  have h7 : vs 7 = .agg #[.int .i64 0, .bool true, .string ⟨#[]⟩, .string ⟨#[50]⟩] := hd 7 (by kernel_rfl)
  have e : ([(0, vs 6), (1, vs 7)] : List (Nat × Value)) = [(0, (.agg #[.int .u8 1, .string ⟨#[98]⟩, .string ⟨#[]⟩, .string ⟨#[]⟩, .bool false, .bool false, .slice none 0 0])), (1, (.agg #[.int .i64 0, .bool true, .string ⟨#[]⟩, .string ⟨#[50]⟩]))] := by rw [h6, h7]
  exact wp_built 52 _ [(0, (.agg #[.int .u8 1, .string ⟨#[98]⟩, .string ⟨#[]⟩, .string ⟨#[]⟩, .bool false, .bool false, .slice none 0 0])), (1, (.agg #[.int .i64 0, .bool true, .string ⟨#[]⟩, .string ⟨#[50]⟩]))] #[.int .u8 1, .string ⟨#[98]⟩, .string ⟨#[]⟩, .string ⟨#[]⟩, .bool false, .bool false, .slice none 0 0, .int .i64 0, .bool true, .string ⟨#[]⟩, .string ⟨#[50]⟩] rfl e (by kernel_rfl) (hK _ w (Turn.refl _ _) (show G3 8 w (.agg #[.int .u8 1, .string ⟨#[98]⟩, .string ⟨#[]⟩, .string ⟨#[]⟩, .bool false, .bool false, .slice none 0 0, .int .i64 0, .bool true, .string ⟨#[]⟩, .string ⟨#[50]⟩]) from (rfl : (.agg #[.int .u8 1, .string ⟨#[98]⟩, .string ⟨#[]⟩, .string ⟨#[]⟩, .bool false, .bool false, .slice none 0 0, .int .i64 0, .bool true, .string ⟨#[]⟩, .string ⟨#[50]⟩] : Value) = (.agg #[.int .u8 1, .string ⟨#[98]⟩, .string ⟨#[]⟩, .string ⟨#[]⟩, .bool false, .bool false, .slice none 0 0, .int .i64 0, .bool true, .string ⟨#[]⟩, .string ⟨#[50]⟩] : Value))))
set_option maxRecDepth 20000 in
theorem r3_9 : R3 9 := by
  intro o ho p vs w hd K Q hK
  injection (show some _ = some o from ho) with ho
  subst ho
  exact wp_built 39 _ [(0, .int .u8 1), (1, .string ⟨#[99]⟩)] #[.int .u8 1, .string ⟨#[99]⟩, .string ⟨#[]⟩, .string ⟨#[]⟩, .bool false, .bool false, .slice none 0 0] rfl rfl (by kernel_rfl) (hK _ w (Turn.refl _ _) (show G3 9 w (.agg #[.int .u8 1, .string ⟨#[99]⟩, .string ⟨#[]⟩, .string ⟨#[]⟩, .bool false, .bool false, .slice none 0 0]) from (rfl : (.agg #[.int .u8 1, .string ⟨#[99]⟩, .string ⟨#[]⟩, .string ⟨#[]⟩, .bool false, .bool false, .slice none 0 0] : Value) = (.agg #[.int .u8 1, .string ⟨#[99]⟩, .string ⟨#[]⟩, .string ⟨#[]⟩, .bool false, .bool false, .slice none 0 0] : Value))))
set_option maxRecDepth 20000 in
theorem r3_10 : R3 10 := by
  intro o ho p vs w hd K Q hK
  injection (show some _ = some o from ho) with ho
  subst ho
  exact wp_built 35 _ [] #[.int .i64 0, .bool false, .string ⟨#[]⟩, .string ⟨#[]⟩] rfl rfl (by kernel_rfl) (hK _ w (Turn.refl _ _) (show G3 10 w (.agg #[.int .i64 0, .bool false, .string ⟨#[]⟩, .string ⟨#[]⟩]) from (rfl : (.agg #[.int .i64 0, .bool false, .string ⟨#[]⟩, .string ⟨#[]⟩] : Value) = (.agg #[.int .i64 0, .bool false, .string ⟨#[]⟩, .string ⟨#[]⟩] : Value))))
set_option maxRecDepth 20000 in
theorem r3_11 : R3 11 := by
  intro o ho p vs w hd K Q hK
  injection (show some _ = some o from ho) with ho
  subst ho
  have h9 : vs 9 = .agg #[.int .u8 1, .string ⟨#[99]⟩, .string ⟨#[]⟩, .string ⟨#[]⟩, .bool false, .bool false, .slice none 0 0] := hd 9 (by kernel_rfl)
  have h10 : vs 10 = .agg #[.int .i64 0, .bool false, .string ⟨#[]⟩, .string ⟨#[]⟩] := hd 10 (by kernel_rfl)
  have e : ([(0, vs 9), (1, vs 10)] : List (Nat × Value)) = [(0, (.agg #[.int .u8 1, .string ⟨#[99]⟩, .string ⟨#[]⟩, .string ⟨#[]⟩, .bool false, .bool false, .slice none 0 0])), (1, (.agg #[.int .i64 0, .bool false, .string ⟨#[]⟩, .string ⟨#[]⟩]))] := by rw [h9, h10]
  exact wp_built 52 _ [(0, (.agg #[.int .u8 1, .string ⟨#[99]⟩, .string ⟨#[]⟩, .string ⟨#[]⟩, .bool false, .bool false, .slice none 0 0])), (1, (.agg #[.int .i64 0, .bool false, .string ⟨#[]⟩, .string ⟨#[]⟩]))] #[.int .u8 1, .string ⟨#[99]⟩, .string ⟨#[]⟩, .string ⟨#[]⟩, .bool false, .bool false, .slice none 0 0, .int .i64 0, .bool false, .string ⟨#[]⟩, .string ⟨#[]⟩] rfl e (by kernel_rfl) (hK _ w (Turn.refl _ _) (show G3 11 w (.agg #[.int .u8 1, .string ⟨#[99]⟩, .string ⟨#[]⟩, .string ⟨#[]⟩, .bool false, .bool false, .slice none 0 0, .int .i64 0, .bool false, .string ⟨#[]⟩, .string ⟨#[]⟩]) from (rfl : (.agg #[.int .u8 1, .string ⟨#[99]⟩, .string ⟨#[]⟩, .string ⟨#[]⟩, .bool false, .bool false, .slice none 0 0, .int .i64 0, .bool false, .string ⟨#[]⟩, .string ⟨#[]⟩] : Value) = (.agg #[.int .u8 1, .string ⟨#[99]⟩, .string ⟨#[]⟩, .string ⟨#[]⟩, .bool false, .bool false, .slice none 0 0, .int .i64 0, .bool false, .string ⟨#[]⟩, .string ⟨#[]⟩] : Value))))
set_option maxRecDepth 20000 in
theorem r3_12 : R3 12 := by
  intro o ho p vs w hd K Q hK
  injection (show some _ = some o from ho) with ho
  subst ho
  exact wp_built 39 _ [(0, .int .u8 4), (1, .string ⟨#[98]⟩), (2, .string ⟨#[51]⟩), (4, .bool true), (3, .string ⟨#[50]⟩)] #[.int .u8 4, .string ⟨#[98]⟩, .string ⟨#[51]⟩, .string ⟨#[50]⟩, .bool true, .bool false, .slice none 0 0] rfl rfl (by kernel_rfl) (hK _ w (Turn.refl _ _) (show G3 12 w (.agg #[.int .u8 4, .string ⟨#[98]⟩, .string ⟨#[51]⟩, .string ⟨#[50]⟩, .bool true, .bool false, .slice none 0 0]) from (rfl : (.agg #[.int .u8 4, .string ⟨#[98]⟩, .string ⟨#[51]⟩, .string ⟨#[50]⟩, .bool true, .bool false, .slice none 0 0] : Value) = (.agg #[.int .u8 4, .string ⟨#[98]⟩, .string ⟨#[51]⟩, .string ⟨#[50]⟩, .bool true, .bool false, .slice none 0 0] : Value))))
set_option maxRecDepth 20000 in
theorem r3_13 : R3 13 := by
  intro o ho p vs w hd K Q hK
  injection (show some _ = some o from ho) with ho
  subst ho
  exact wp_built 35 _ [(1, .bool true), (3, .string ⟨#[50]⟩)] #[.int .i64 0, .bool true, .string ⟨#[]⟩, .string ⟨#[50]⟩] rfl rfl (by kernel_rfl) (hK _ w (Turn.refl _ _) (show G3 13 w (.agg #[.int .i64 0, .bool true, .string ⟨#[]⟩, .string ⟨#[50]⟩]) from (rfl : (.agg #[.int .i64 0, .bool true, .string ⟨#[]⟩, .string ⟨#[50]⟩] : Value) = (.agg #[.int .i64 0, .bool true, .string ⟨#[]⟩, .string ⟨#[50]⟩] : Value))))
set_option maxRecDepth 20000 in
theorem r3_14 : R3 14 := by
  intro o ho p vs w hd K Q hK
  injection (show some _ = some o from ho) with ho
  subst ho
  have h12 : vs 12 = .agg #[.int .u8 4, .string ⟨#[98]⟩, .string ⟨#[51]⟩, .string ⟨#[50]⟩, .bool true, .bool false, .slice none 0 0] := hd 12 (by kernel_rfl)
  have h13 : vs 13 = .agg #[.int .i64 0, .bool true, .string ⟨#[]⟩, .string ⟨#[50]⟩] := hd 13 (by kernel_rfl)
  have e : ([(0, vs 12), (1, vs 13)] : List (Nat × Value)) = [(0, (.agg #[.int .u8 4, .string ⟨#[98]⟩, .string ⟨#[51]⟩, .string ⟨#[50]⟩, .bool true, .bool false, .slice none 0 0])), (1, (.agg #[.int .i64 0, .bool true, .string ⟨#[]⟩, .string ⟨#[50]⟩]))] := by rw [h12, h13]
  exact wp_built 52 _ [(0, (.agg #[.int .u8 4, .string ⟨#[98]⟩, .string ⟨#[51]⟩, .string ⟨#[50]⟩, .bool true, .bool false, .slice none 0 0])), (1, (.agg #[.int .i64 0, .bool true, .string ⟨#[]⟩, .string ⟨#[50]⟩]))] #[.int .u8 4, .string ⟨#[98]⟩, .string ⟨#[51]⟩, .string ⟨#[50]⟩, .bool true, .bool false, .slice none 0 0, .int .i64 0, .bool true, .string ⟨#[]⟩, .string ⟨#[50]⟩] rfl e (by kernel_rfl) (hK _ w (Turn.refl _ _) (show G3 14 w (.agg #[.int .u8 4, .string ⟨#[98]⟩, .string ⟨#[51]⟩, .string ⟨#[50]⟩, .bool true, .bool false, .slice none 0 0, .int .i64 0, .bool true, .string ⟨#[]⟩, .string ⟨#[50]⟩]) from (rfl : (.agg #[.int .u8 4, .string ⟨#[98]⟩, .string ⟨#[51]⟩, .string ⟨#[50]⟩, .bool true, .bool false, .slice none 0 0, .int .i64 0, .bool true, .string ⟨#[]⟩, .string ⟨#[50]⟩] : Value) = (.agg #[.int .u8 4, .string ⟨#[98]⟩, .string ⟨#[51]⟩, .string ⟨#[50]⟩, .bool true, .bool false, .slice none 0 0, .int .i64 0, .bool true, .string ⟨#[]⟩, .string ⟨#[50]⟩] : Value))))
set_option maxRecDepth 20000 in
theorem r3_15 : R3 15 := by
  intro o ho p vs w hd K Q hK
  injection (show some _ = some o from ho) with ho
  subst ho
  exact wp_built 39 _ [(0, .int .u8 4), (1, .string ⟨#[98]⟩), (2, .string ⟨#[52]⟩), (4, .bool true), (3, .string ⟨#[50]⟩)] #[.int .u8 4, .string ⟨#[98]⟩, .string ⟨#[52]⟩, .string ⟨#[50]⟩, .bool true, .bool false, .slice none 0 0] rfl rfl (by kernel_rfl) (hK _ w (Turn.refl _ _) (show G3 15 w (.agg #[.int .u8 4, .string ⟨#[98]⟩, .string ⟨#[52]⟩, .string ⟨#[50]⟩, .bool true, .bool false, .slice none 0 0]) from (rfl : (.agg #[.int .u8 4, .string ⟨#[98]⟩, .string ⟨#[52]⟩, .string ⟨#[50]⟩, .bool true, .bool false, .slice none 0 0] : Value) = (.agg #[.int .u8 4, .string ⟨#[98]⟩, .string ⟨#[52]⟩, .string ⟨#[50]⟩, .bool true, .bool false, .slice none 0 0] : Value))))
set_option maxRecDepth 20000 in
theorem r3_16 : R3 16 := by
  intro o ho p vs w hd K Q hK
  injection (show some _ = some o from ho) with ho
  subst ho
  exact wp_built 35 _ [(3, .string ⟨#[51]⟩)] #[.int .i64 0, .bool false, .string ⟨#[]⟩, .string ⟨#[51]⟩] rfl rfl (by kernel_rfl) (hK _ w (Turn.refl _ _) (show G3 16 w (.agg #[.int .i64 0, .bool false, .string ⟨#[]⟩, .string ⟨#[51]⟩]) from (rfl : (.agg #[.int .i64 0, .bool false, .string ⟨#[]⟩, .string ⟨#[51]⟩] : Value) = (.agg #[.int .i64 0, .bool false, .string ⟨#[]⟩, .string ⟨#[51]⟩] : Value))))
set_option maxRecDepth 20000 in
theorem r3_17 : R3 17 := by
  intro o ho p vs w hd K Q hK
  injection (show some _ = some o from ho) with ho
  subst ho
  have h15 : vs 15 = .agg #[.int .u8 4, .string ⟨#[98]⟩, .string ⟨#[52]⟩, .string ⟨#[50]⟩, .bool true, .bool false, .slice none 0 0] := hd 15 (by kernel_rfl)
  have h16 : vs 16 = .agg #[.int .i64 0, .bool false, .string ⟨#[]⟩, .string ⟨#[51]⟩] := hd 16 (by kernel_rfl)
  have e : ([(0, vs 15), (1, vs 16)] : List (Nat × Value)) = [(0, (.agg #[.int .u8 4, .string ⟨#[98]⟩, .string ⟨#[52]⟩, .string ⟨#[50]⟩, .bool true, .bool false, .slice none 0 0])), (1, (.agg #[.int .i64 0, .bool false, .string ⟨#[]⟩, .string ⟨#[51]⟩]))] := by rw [h15, h16]
  exact wp_built 52 _ [(0, (.agg #[.int .u8 4, .string ⟨#[98]⟩, .string ⟨#[52]⟩, .string ⟨#[50]⟩, .bool true, .bool false, .slice none 0 0])), (1, (.agg #[.int .i64 0, .bool false, .string ⟨#[]⟩, .string ⟨#[51]⟩]))] #[.int .u8 4, .string ⟨#[98]⟩, .string ⟨#[52]⟩, .string ⟨#[50]⟩, .bool true, .bool false, .slice none 0 0, .int .i64 0, .bool false, .string ⟨#[]⟩, .string ⟨#[51]⟩] rfl e (by kernel_rfl) (hK _ w (Turn.refl _ _) (show G3 17 w (.agg #[.int .u8 4, .string ⟨#[98]⟩, .string ⟨#[52]⟩, .string ⟨#[50]⟩, .bool true, .bool false, .slice none 0 0, .int .i64 0, .bool false, .string ⟨#[]⟩, .string ⟨#[51]⟩]) from (rfl : (.agg #[.int .u8 4, .string ⟨#[98]⟩, .string ⟨#[52]⟩, .string ⟨#[50]⟩, .bool true, .bool false, .slice none 0 0, .int .i64 0, .bool false, .string ⟨#[]⟩, .string ⟨#[51]⟩] : Value) = (.agg #[.int .u8 4, .string ⟨#[98]⟩, .string ⟨#[52]⟩, .string ⟨#[50]⟩, .bool true, .bool false, .slice none 0 0, .int .i64 0, .bool false, .string ⟨#[]⟩, .string ⟨#[51]⟩] : Value))))
set_option maxRecDepth 20000 in
theorem r3_18 : R3 18 := by
  intro o ho p vs w hd K Q hK
  injection (show some _ = some o from ho) with ho
  subst ho
  exact wp_built 39 _ [(0, .int .u8 4), (1, .string ⟨#[99]⟩), (2, .string ⟨#[53]⟩)] #[.int .u8 4, .string ⟨#[99]⟩, .string ⟨#[53]⟩, .string ⟨#[]⟩, .bool false, .bool false, .slice none 0 0] rfl rfl (by kernel_rfl) (hK _ w (Turn.refl _ _) (show G3 18 w (.agg #[.int .u8 4, .string ⟨#[99]⟩, .string ⟨#[53]⟩, .string ⟨#[]⟩, .bool false, .bool false, .slice none 0 0]) from (rfl : (.agg #[.int .u8 4, .string ⟨#[99]⟩, .string ⟨#[53]⟩, .string ⟨#[]⟩, .bool false, .bool false, .slice none 0 0] : Value) = (.agg #[.int .u8 4, .string ⟨#[99]⟩, .string ⟨#[53]⟩, .string ⟨#[]⟩, .bool false, .bool false, .slice none 0 0] : Value))))
set_option maxRecDepth 20000 in
theorem r3_19 : R3 19 := by
  intro o ho p vs w hd K Q hK
  injection (show some _ = some o from ho) with ho
  subst ho
  exact wp_built 35 _ [(1, .bool true)] #[.int .i64 0, .bool true, .string ⟨#[]⟩, .string ⟨#[]⟩] rfl rfl (by kernel_rfl) (hK _ w (Turn.refl _ _) (show G3 19 w (.agg #[.int .i64 0, .bool true, .string ⟨#[]⟩, .string ⟨#[]⟩]) from (rfl : (.agg #[.int .i64 0, .bool true, .string ⟨#[]⟩, .string ⟨#[]⟩] : Value) = (.agg #[.int .i64 0, .bool true, .string ⟨#[]⟩, .string ⟨#[]⟩] : Value))))
set_option maxRecDepth 20000 in
theorem r3_20 : R3 20 := by
  intro o ho p vs w hd K Q hK
  injection (show some _ = some o from ho) with ho
  subst ho
  have h18 : vs 18 = .agg #[.int .u8 4, .string ⟨#[99]⟩, .string ⟨#[53]⟩, .string ⟨#[]⟩, .bool false, .bool false, .slice none 0 0] := hd 18 (by kernel_rfl)
  have h19 : vs 19 = .agg #[.int .i64 0, .bool true, .string ⟨#[]⟩, .string ⟨#[]⟩] := hd 19 (by kernel_rfl)
  have e : ([(0, vs 18), (1, vs 19)] : List (Nat × Value)) = [(0, (.agg #[.int .u8 4, .string ⟨#[99]⟩, .string ⟨#[53]⟩, .string ⟨#[]⟩, .bool false, .bool false, .slice none 0 0])), (1, (.agg #[.int .i64 0, .bool true, .string ⟨#[]⟩, .string ⟨#[]⟩]))] := by rw [h18, h19]
  exact wp_built 52 _ [(0, (.agg #[.int .u8 4, .string ⟨#[99]⟩, .string ⟨#[53]⟩, .string ⟨#[]⟩, .bool false, .bool false, .slice none 0 0])), (1, (.agg #[.int .i64 0, .bool true, .string ⟨#[]⟩, .string ⟨#[]⟩]))] #[.int .u8 4, .string ⟨#[99]⟩, .string ⟨#[53]⟩, .string ⟨#[]⟩, .bool false, .bool false, .slice none 0 0, .int .i64 0, .bool true, .string ⟨#[]⟩, .string ⟨#[]⟩] rfl e (by kernel_rfl) (hK _ w (Turn.refl _ _) (show G3 20 w (.agg #[.int .u8 4, .string ⟨#[99]⟩, .string ⟨#[53]⟩, .string ⟨#[]⟩, .bool false, .bool false, .slice none 0 0, .int .i64 0, .bool true, .string ⟨#[]⟩, .string ⟨#[]⟩]) from (rfl : (.agg #[.int .u8 4, .string ⟨#[99]⟩, .string ⟨#[53]⟩, .string ⟨#[]⟩, .bool false, .bool false, .slice none 0 0, .int .i64 0, .bool true, .string ⟨#[]⟩, .string ⟨#[]⟩] : Value) = (.agg #[.int .u8 4, .string ⟨#[99]⟩, .string ⟨#[53]⟩, .string ⟨#[]⟩, .bool false, .bool false, .slice none 0 0, .int .i64 0, .bool true, .string ⟨#[]⟩, .string ⟨#[]⟩] : Value))))
set_option maxRecDepth 20000 in
theorem r3_21 : R3 21 := by
  intro o ho p vs w hd K Q hK
  injection (show some _ = some o from ho) with ho
  subst ho
  exact wp_built 39 _ [(0, .int .u8 4), (1, .string ⟨#[99]⟩), (2, .string ⟨#[54]⟩)] #[.int .u8 4, .string ⟨#[99]⟩, .string ⟨#[54]⟩, .string ⟨#[]⟩, .bool false, .bool false, .slice none 0 0] rfl rfl (by kernel_rfl) (hK _ w (Turn.refl _ _) (show G3 21 w (.agg #[.int .u8 4, .string ⟨#[99]⟩, .string ⟨#[54]⟩, .string ⟨#[]⟩, .bool false, .bool false, .slice none 0 0]) from (rfl : (.agg #[.int .u8 4, .string ⟨#[99]⟩, .string ⟨#[54]⟩, .string ⟨#[]⟩, .bool false, .bool false, .slice none 0 0] : Value) = (.agg #[.int .u8 4, .string ⟨#[99]⟩, .string ⟨#[54]⟩, .string ⟨#[]⟩, .bool false, .bool false, .slice none 0 0] : Value))))
set_option maxRecDepth 20000 in
theorem r3_22 : R3 22 := by
  intro o ho p vs w hd K Q hK
  injection (show some _ = some o from ho) with ho
  subst ho
  exact wp_built 35 _ [(3, .string ⟨#[53]⟩)] #[.int .i64 0, .bool false, .string ⟨#[]⟩, .string ⟨#[53]⟩] rfl rfl (by kernel_rfl) (hK _ w (Turn.refl _ _) (show G3 22 w (.agg #[.int .i64 0, .bool false, .string ⟨#[]⟩, .string ⟨#[53]⟩]) from (rfl : (.agg #[.int .i64 0, .bool false, .string ⟨#[]⟩, .string ⟨#[53]⟩] : Value) = (.agg #[.int .i64 0, .bool false, .string ⟨#[]⟩, .string ⟨#[53]⟩] : Value))))
set_option maxRecDepth 20000 in
theorem r3_23 : R3 23 := by
  intro o ho p vs w hd K Q hK
  injection (show some _ = some o from ho) with ho
  subst ho
  have h21 : vs 21 = .agg #[.int .u8 4, .string ⟨#[99]⟩, .string ⟨#[54]⟩, .string ⟨#[]⟩, .bool false, .bool false, .slice none 0 0] := hd 21 (by kernel_rfl)
  have h22 : vs 22 = .agg #[.int .i64 0, .bool false, .string ⟨#[]⟩, .string ⟨#[53]⟩] := hd 22 (by kernel_rfl)
  have e : ([(0, vs 21), (1, vs 22)] : List (Nat × Value)) = [(0, (.agg #[.int .u8 4, .string ⟨#[99]⟩, .string ⟨#[54]⟩, .string ⟨#[]⟩, .bool false, .bool false, .slice none 0 0])), (1, (.agg #[.int .i64 0, .bool false, .string ⟨#[]⟩, .string ⟨#[53]⟩]))] := by rw [h21, h22]
  exact wp_built 52 _ [(0, (.agg #[.int .u8 4, .string ⟨#[99]⟩, .string ⟨#[54]⟩, .string ⟨#[]⟩, .bool false, .bool false, .slice none 0 0])), (1, (.agg #[.int .i64 0, .bool false, .string ⟨#[]⟩, .string ⟨#[53]⟩]))] #[.int .u8 4, .string ⟨#[99]⟩, .string ⟨#[54]⟩, .string ⟨#[]⟩, .bool false, .bool false, .slice none 0 0, .int .i64 0, .bool false, .string ⟨#[]⟩, .string ⟨#[53]⟩] rfl e (by kernel_rfl) (hK _ w (Turn.refl _ _) (show G3 23 w (.agg #[.int .u8 4, .string ⟨#[99]⟩, .string ⟨#[54]⟩, .string ⟨#[]⟩, .bool false, .bool false, .slice none 0 0, .int .i64 0, .bool false, .string ⟨#[]⟩, .string ⟨#[53]⟩]) from (rfl : (.agg #[.int .u8 4, .string ⟨#[99]⟩, .string ⟨#[54]⟩, .string ⟨#[]⟩, .bool false, .bool false, .slice none 0 0, .int .i64 0, .bool false, .string ⟨#[]⟩, .string ⟨#[53]⟩] : Value) = (.agg #[.int .u8 4, .string ⟨#[99]⟩, .string ⟨#[54]⟩, .string ⟨#[]⟩, .bool false, .bool false, .slice none 0 0, .int .i64 0, .bool false, .string ⟨#[]⟩, .string ⟨#[53]⟩] : Value))))
set_option maxRecDepth 20000 in
theorem r3_24 : R3 24 := by
  intro o ho p vs w hd K Q hK
  injection (show some _ = some o from ho) with ho
  subst ho
  exact wp_built 39 _ [(0, .int .u8 5), (1, .string ⟨#[97]⟩)] #[.int .u8 5, .string ⟨#[97]⟩, .string ⟨#[]⟩, .string ⟨#[]⟩, .bool false, .bool false, .slice none 0 0] rfl rfl (by kernel_rfl) (hK _ w (Turn.refl _ _) (show G3 24 w (.agg #[.int .u8 5, .string ⟨#[97]⟩, .string ⟨#[]⟩, .string ⟨#[]⟩, .bool false, .bool false, .slice none 0 0]) from (rfl : (.agg #[.int .u8 5, .string ⟨#[97]⟩, .string ⟨#[]⟩, .string ⟨#[]⟩, .bool false, .bool false, .slice none 0 0] : Value) = (.agg #[.int .u8 5, .string ⟨#[97]⟩, .string ⟨#[]⟩, .string ⟨#[]⟩, .bool false, .bool false, .slice none 0 0] : Value))))
set_option maxRecDepth 20000 in
theorem r3_25 : R3 25 := by
  intro o ho p vs w hd K Q hK
  injection (show some _ = some o from ho) with ho
  subst ho
  exact wp_built 35 _ [(1, .bool true), (2, .string ⟨#[98]⟩), (3, .string ⟨#[51]⟩)] #[.int .i64 0, .bool true, .string ⟨#[98]⟩, .string ⟨#[51]⟩] rfl rfl (by kernel_rfl) (hK _ w (Turn.refl _ _) (show G3 25 w (.agg #[.int .i64 0, .bool true, .string ⟨#[98]⟩, .string ⟨#[51]⟩]) from (rfl : (.agg #[.int .i64 0, .bool true, .string ⟨#[98]⟩, .string ⟨#[51]⟩] : Value) = (.agg #[.int .i64 0, .bool true, .string ⟨#[98]⟩, .string ⟨#[51]⟩] : Value))))
set_option maxRecDepth 20000 in
theorem r3_26 : R3 26 := by
  intro o ho p vs w hd K Q hK
  injection (show some _ = some o from ho) with ho
  subst ho
  have h24 : vs 24 = .agg #[.int .u8 5, .string ⟨#[97]⟩, .string ⟨#[]⟩, .string ⟨#[]⟩, .bool false, .bool false, .slice none 0 0] := hd 24 (by kernel_rfl)
  have h25 : vs 25 = .agg #[.int .i64 0, .bool true, .string ⟨#[98]⟩, .string ⟨#[51]⟩] := hd 25 (by kernel_rfl)
  have e : ([(0, vs 24), (1, vs 25)] : List (Nat × Value)) = [(0, (.agg #[.int .u8 5, .string ⟨#[97]⟩, .string ⟨#[]⟩, .string ⟨#[]⟩, .bool false, .bool false, .slice none 0 0])), (1, (.agg #[.int .i64 0, .bool true, .string ⟨#[98]⟩, .string ⟨#[51]⟩]))] := by rw [h24, h25]
  exact wp_built 52 _ [(0, (.agg #[.int .u8 5, .string ⟨#[97]⟩, .string ⟨#[]⟩, .string ⟨#[]⟩, .bool false, .bool false, .slice none 0 0])), (1, (.agg #[.int .i64 0, .bool true, .string ⟨#[98]⟩, .string ⟨#[51]⟩]))] #[.int .u8 5, .string ⟨#[97]⟩, .string ⟨#[]⟩, .string ⟨#[]⟩, .bool false, .bool false, .slice none 0 0, .int .i64 0, .bool true, .string ⟨#[98]⟩, .string ⟨#[51]⟩] rfl e (by kernel_rfl) (hK _ w (Turn.refl _ _) (show G3 26 w (.agg #[.int .u8 5, .string ⟨#[97]⟩, .string ⟨#[]⟩, .string ⟨#[]⟩, .bool false, .bool false, .slice none 0 0, .int .i64 0, .bool true, .string ⟨#[98]⟩, .string ⟨#[51]⟩]) from (rfl : (.agg #[.int .u8 5, .string ⟨#[97]⟩, .string ⟨#[]⟩, .string ⟨#[]⟩, .bool false, .bool false, .slice none 0 0, .int .i64 0, .bool true, .string ⟨#[98]⟩, .string ⟨#[51]⟩] : Value) = (.agg #[.int .u8 5, .string ⟨#[97]⟩, .string ⟨#[]⟩, .string ⟨#[]⟩, .bool false, .bool false, .slice none 0 0, .int .i64 0, .bool true, .string ⟨#[98]⟩, .string ⟨#[51]⟩] : Value))))
set_option maxRecDepth 20000 in
theorem r3_27 : R3 27 := by
  intro o ho p vs w hd K Q hK
  injection (show some _ = some o from ho) with ho
  subst ho
  exact wp_built 39 _ [(0, .int .u8 5), (1, .string ⟨#[98]⟩), (5, .bool true)] #[.int .u8 5, .string ⟨#[98]⟩, .string ⟨#[]⟩, .string ⟨#[]⟩, .bool false, .bool true, .slice none 0 0] rfl rfl (by kernel_rfl) (hK _ w (Turn.refl _ _) (show G3 27 w (.agg #[.int .u8 5, .string ⟨#[98]⟩, .string ⟨#[]⟩, .string ⟨#[]⟩, .bool false, .bool true, .slice none 0 0]) from (rfl : (.agg #[.int .u8 5, .string ⟨#[98]⟩, .string ⟨#[]⟩, .string ⟨#[]⟩, .bool false, .bool true, .slice none 0 0] : Value) = (.agg #[.int .u8 5, .string ⟨#[98]⟩, .string ⟨#[]⟩, .string ⟨#[]⟩, .bool false, .bool true, .slice none 0 0] : Value))))
set_option maxRecDepth 20000 in
theorem r3_28 : R3 28 := by
  intro o ho p vs w hd K Q hK
  injection (show some _ = some o from ho) with ho
  subst ho
  exact wp_built 35 _ [(1, .bool true), (2, .string ⟨#[99]⟩), (3, .string ⟨#[53]⟩)] #[.int .i64 0, .bool true, .string ⟨#[99]⟩, .string ⟨#[53]⟩] rfl rfl (by kernel_rfl) (hK _ w (Turn.refl _ _) (show G3 28 w (.agg #[.int .i64 0, .bool true, .string ⟨#[99]⟩, .string ⟨#[53]⟩]) from (rfl : (.agg #[.int .i64 0, .bool true, .string ⟨#[99]⟩, .string ⟨#[53]⟩] : Value) = (.agg #[.int .i64 0, .bool true, .string ⟨#[99]⟩, .string ⟨#[53]⟩] : Value))))
set_option maxRecDepth 20000 in
theorem r3_29 : R3 29 := by
  intro o ho p vs w hd K Q hK
  injection (show some _ = some o from ho) with ho
  subst ho
  have h27 : vs 27 = .agg #[.int .u8 5, .string ⟨#[98]⟩, .string ⟨#[]⟩, .string ⟨#[]⟩, .bool false, .bool true, .slice none 0 0] := hd 27 (by kernel_rfl)
  have h28 : vs 28 = .agg #[.int .i64 0, .bool true, .string ⟨#[99]⟩, .string ⟨#[53]⟩] := hd 28 (by kernel_rfl)
  have e : ([(0, vs 27), (1, vs 28)] : List (Nat × Value)) = [(0, (.agg #[.int .u8 5, .string ⟨#[98]⟩, .string ⟨#[]⟩, .string ⟨#[]⟩, .bool false, .bool true, .slice none 0 0])), (1, (.agg #[.int .i64 0, .bool true, .string ⟨#[99]⟩, .string ⟨#[53]⟩]))] := by rw [h27, h28]
  exact wp_built 52 _ [(0, (.agg #[.int .u8 5, .string ⟨#[98]⟩, .string ⟨#[]⟩, .string ⟨#[]⟩, .bool false, .bool true, .slice none 0 0])), (1, (.agg #[.int .i64 0, .bool true, .string ⟨#[99]⟩, .string ⟨#[53]⟩]))] #[.int .u8 5, .string ⟨#[98]⟩, .string ⟨#[]⟩, .string ⟨#[]⟩, .bool false, .bool true, .slice none 0 0, .int .i64 0, .bool true, .string ⟨#[99]⟩, .string ⟨#[53]⟩] rfl e (by kernel_rfl) (hK _ w (Turn.refl _ _) (show G3 29 w (.agg #[.int .u8 5, .string ⟨#[98]⟩, .string ⟨#[]⟩, .string ⟨#[]⟩, .bool false, .bool true, .slice none 0 0, .int .i64 0, .bool true, .string ⟨#[99]⟩, .string ⟨#[53]⟩]) from (rfl : (.agg #[.int .u8 5, .string ⟨#[98]⟩, .string ⟨#[]⟩, .string ⟨#[]⟩, .bool false, .bool true, .slice none 0 0, .int .i64 0, .bool true, .string ⟨#[99]⟩, .string ⟨#[53]⟩] : Value) = (.agg #[.int .u8 5, .string ⟨#[98]⟩, .string ⟨#[]⟩, .string ⟨#[]⟩, .bool false, .bool true, .slice none 0 0, .int .i64 0, .bool true, .string ⟨#[99]⟩, .string ⟨#[53]⟩] : Value))))
set_option maxRecDepth 20000 in
theorem r3_30 : R3 30 := by
  intro o ho p vs w hd K Q hK
  injection (show some _ = some o from ho) with ho
  subst ho
  exact wp_built 39 _ [(0, .int .u8 5), (1, .string ⟨#[99]⟩), (5, .bool true)] #[.int .u8 5, .string ⟨#[99]⟩, .string ⟨#[]⟩, .string ⟨#[]⟩, .bool false, .bool true, .slice none 0 0] rfl rfl (by kernel_rfl) (hK _ w (Turn.refl _ _) (show G3 30 w (.agg #[.int .u8 5, .string ⟨#[99]⟩, .string ⟨#[]⟩, .string ⟨#[]⟩, .bool false, .bool true, .slice none 0 0]) from (rfl : (.agg #[.int .u8 5, .string ⟨#[99]⟩, .string ⟨#[]⟩, .string ⟨#[]⟩, .bool false, .bool true, .slice none 0 0] : Value) = (.agg #[.int .u8 5, .string ⟨#[99]⟩, .string ⟨#[]⟩, .string ⟨#[]⟩, .bool false, .bool true, .slice none 0 0] : Value))))
set_option maxRecDepth 20000 in
theorem r3_31 : R3 31 := by
  intro o ho p vs w hd K Q hK
  injection (show some _ = some o from ho) with ho
  subst ho
  exact wp_built 35 _ [] #[.int .i64 0, .bool false, .string ⟨#[]⟩, .string ⟨#[]⟩] rfl rfl (by kernel_rfl) (hK _ w (Turn.refl _ _) (show G3 31 w (.agg #[.int .i64 0, .bool false, .string ⟨#[]⟩, .string ⟨#[]⟩]) from (rfl : (.agg #[.int .i64 0, .bool false, .string ⟨#[]⟩, .string ⟨#[]⟩] : Value) = (.agg #[.int .i64 0, .bool false, .string ⟨#[]⟩, .string ⟨#[]⟩] : Value))))
set_option maxRecDepth 20000 in
theorem r3_32 : R3 32 := by
  intro o ho p vs w hd K Q hK
  injection (show some _ = some o from ho) with ho
  subst ho
  have h30 : vs 30 = .agg #[.int .u8 5, .string ⟨#[99]⟩, .string ⟨#[]⟩, .string ⟨#[]⟩, .bool false, .bool true, .slice none 0 0] := hd 30 (by kernel_rfl)
  have h31 : vs 31 = .agg #[.int .i64 0, .bool false, .string ⟨#[]⟩, .string ⟨#[]⟩] := hd 31 (by kernel_rfl)
  have e : ([(0, vs 30), (1, vs 31)] : List (Nat × Value)) = [(0, (.agg #[.int .u8 5, .string ⟨#[99]⟩, .string ⟨#[]⟩, .string ⟨#[]⟩, .bool false, .bool true, .slice none 0 0])), (1, (.agg #[.int .i64 0, .bool false, .string ⟨#[]⟩, .string ⟨#[]⟩]))] := by rw [h30, h31]
  exact wp_built 52 _ [(0, (.agg #[.int .u8 5, .string ⟨#[99]⟩, .string ⟨#[]⟩, .string ⟨#[]⟩, .bool false, .bool true, .slice none 0 0])), (1, (.agg #[.int .i64 0, .bool false, .string ⟨#[]⟩, .string ⟨#[]⟩]))] #[.int .u8 5, .string ⟨#[99]⟩, .string ⟨#[]⟩, .string ⟨#[]⟩, .bool false, .bool true, .slice none 0 0, .int .i64 0, .bool false, .string ⟨#[]⟩, .string ⟨#[]⟩] rfl e (by kernel_rfl) (hK _ w (Turn.refl _ _) (show G3 32 w (.agg #[.int .u8 5, .string ⟨#[99]⟩, .string ⟨#[]⟩, .string ⟨#[]⟩, .bool false, .bool true, .slice none 0 0, .int .i64 0, .bool false, .string ⟨#[]⟩, .string ⟨#[]⟩]) from (rfl : (.agg #[.int .u8 5, .string ⟨#[99]⟩, .string ⟨#[]⟩, .string ⟨#[]⟩, .bool false, .bool true, .slice none 0 0, .int .i64 0, .bool false, .string ⟨#[]⟩, .string ⟨#[]⟩] : Value) = (.agg #[.int .u8 5, .string ⟨#[99]⟩, .string ⟨#[]⟩, .string ⟨#[]⟩, .bool false, .bool true, .slice none 0 0, .int .i64 0, .bool false, .string ⟨#[]⟩, .string ⟨#[]⟩] : Value))))
set_option maxRecDepth 20000 in
theorem r3_33 : R3 33 := by
  intro o ho p vs w hd K Q hK
  injection (show some _ = some o from ho) with ho
  subst ho
  exact wp_built 46 _ [(0, .string ⟨#[98]⟩), (2, .bool true)] #[.string ⟨#[98]⟩, .string ⟨#[]⟩, .bool true] rfl rfl (by kernel_rfl) (hK _ w (Turn.refl _ _) (show G3 33 w (.agg #[.string ⟨#[98]⟩, .string ⟨#[]⟩, .bool true]) from (rfl : (.agg #[.string ⟨#[98]⟩, .string ⟨#[]⟩, .bool true] : Value) = (.agg #[.string ⟨#[98]⟩, .string ⟨#[]⟩, .bool true] : Value))))
set_option maxRecDepth 20000 in
theorem r3_34 : R3 34 := by
  intro o ho p vs w hd K Q hK
  injection (show some _ = some o from ho) with ho
  subst ho
  exact wp_built 46 _ [(0, .string ⟨#[100]⟩), (1, .string ⟨#[55]⟩)] #[.string ⟨#[100]⟩, .string ⟨#[55]⟩, .bool false] rfl rfl (by kernel_rfl) (hK _ w (Turn.refl _ _) (show G3 34 w (.agg #[.string ⟨#[100]⟩, .string ⟨#[55]⟩, .bool false]) from (rfl : (.agg #[.string ⟨#[100]⟩, .string ⟨#[55]⟩, .bool false] : Value) = (.agg #[.string ⟨#[100]⟩, .string ⟨#[55]⟩, .bool false] : Value))))
set_option maxRecDepth 20000 in
theorem r3_35 : R3 35 := by
  intro o ho p vs w hd K Q hK
  injection (show some _ = some o from ho) with ho
  subst ho
  exact wp_built 46 _ [(0, .string ⟨#[100]⟩), (1, .string ⟨#[56]⟩)] #[.string ⟨#[100]⟩, .string ⟨#[56]⟩, .bool false] rfl rfl (by kernel_rfl) (hK _ w (Turn.refl _ _) (show G3 35 w (.agg #[.string ⟨#[100]⟩, .string ⟨#[56]⟩, .bool false]) from (rfl : (.agg #[.string ⟨#[100]⟩, .string ⟨#[56]⟩, .bool false] : Value) = (.agg #[.string ⟨#[100]⟩, .string ⟨#[56]⟩, .bool false] : Value))))
set_option maxRecDepth 20000 in
theorem r3_36 : R3 36 := by
  intro o ho p vs w hd K Q hK
  injection (show some _ = some o from ho) with ho
  subst ho
  have h33 : vs 33 = .agg #[.string ⟨#[98]⟩, .string ⟨#[]⟩, .bool true] := hd 33 (by kernel_rfl)
  have h34 : vs 34 = .agg #[.string ⟨#[100]⟩, .string ⟨#[55]⟩, .bool false] := hd 34 (by kernel_rfl)
  have h35 : vs 35 = .agg #[.string ⟨#[100]⟩, .string ⟨#[56]⟩, .bool false] := hd 35 (by kernel_rfl)
  have e : ([(0, vs 33), (1, vs 34), (2, vs 35)] : List (Nat × Value)) = [(0, (.agg #[.string ⟨#[98]⟩, .string ⟨#[]⟩, .bool true])), (1, (.agg #[.string ⟨#[100]⟩, .string ⟨#[55]⟩, .bool false])), (2, (.agg #[.string ⟨#[100]⟩, .string ⟨#[56]⟩, .bool false]))] := by rw [h33, h34, h35]
  exact wp_bs 37 46 3 3 _ [(0, (.agg #[.string ⟨#[98]⟩, .string ⟨#[]⟩, .bool true])), (1, (.agg #[.string ⟨#[100]⟩, .string ⟨#[55]⟩, .bool false])), (2, (.agg #[.string ⟨#[100]⟩, .string ⟨#[56]⟩, .bool false]))] #[.string ⟨#[]⟩, .string ⟨#[]⟩, .bool false] (wcs kw3).toArray rfl Try.underlying37 (by kernel_rfl) (by kernel_rfl) (by decide) (by decide) e (by kernel_rfl) (hK _ _ ((Turn.refl _ _).alloc _) ⟨w.heap.size, rfl, At.new _ _⟩)
set_option maxRecDepth 20000 in
theorem r3_37 : R3 37 := by
  intro o ho p vs w hd K Q hK
  injection (show some _ = some o from ho) with ho
  subst ho
  obtain ⟨b36, h36, k36⟩ : ∃ b, vs 36 = .slice (some ⟨b, 0, none⟩) 3 3 ∧ At w b (.cells (wcs kw3).toArray 46 (0, 0)) := hd 36 (by kernel_rfl)
  have e : ([(0, .int .u8 6), (6, vs 36)] : List (Nat × Value)) = [(0, .int .u8 6), (6, (.slice (some ⟨b36, 0, none⟩) 3 3))] := by rw [h36]
  exact wp_built 39 _ [(0, .int .u8 6), (6, (.slice (some ⟨b36, 0, none⟩) 3 3))] #[.int .u8 6, .string ⟨#[]⟩, .string ⟨#[]⟩, .string ⟨#[]⟩, .bool false, .bool false, .slice (some ⟨b36, 0, none⟩) 3 3] rfl e (by kernel_rfl) (hK _ w (Turn.refl _ _) ⟨b36, rfl, k36⟩)
set_option maxRecDepth 20000 in
theorem r3_38 : R3 38 := by
  intro o ho p vs w hd K Q hK
  injection (show some _ = some o from ho) with ho
  subst ho
  exact wp_built 35 _ [] #[.int .i64 0, .bool false, .string ⟨#[]⟩, .string ⟨#[]⟩] rfl rfl (by kernel_rfl) (hK _ w (Turn.refl _ _) (show G3 38 w (.agg #[.int .i64 0, .bool false, .string ⟨#[]⟩, .string ⟨#[]⟩]) from (rfl : (.agg #[.int .i64 0, .bool false, .string ⟨#[]⟩, .string ⟨#[]⟩] : Value) = (.agg #[.int .i64 0, .bool false, .string ⟨#[]⟩, .string ⟨#[]⟩] : Value))))
set_option maxRecDepth 20000 in
theorem r3_39 : R3 39 := by
  intro o ho p vs w hd K Q hK
  injection (show some _ = some o from ho) with ho
  subst ho
  obtain ⟨b37, h37, k37⟩ : ∃ b, vs 37 = .agg #[.int .u8 6, .string ⟨#[]⟩, .string ⟨#[]⟩, .string ⟨#[]⟩, .bool false, .bool false, .slice (some ⟨b, 0, none⟩) 3 3] ∧ At w b (.cells (wcs kw3).toArray 46 (0, 0)) := hd 37 (by kernel_rfl)
  have h38 : vs 38 = .agg #[.int .i64 0, .bool false, .string ⟨#[]⟩, .string ⟨#[]⟩] := hd 38 (by kernel_rfl)
  have e : ([(0, vs 37), (1, vs 38)] : List (Nat × Value)) = [(0, (.agg #[.int .u8 6, .string ⟨#[]⟩, .string ⟨#[]⟩, .string ⟨#[]⟩, .bool false, .bool false, .slice (some ⟨b37, 0, none⟩) 3 3])), (1, (.agg #[.int .i64 0, .bool false, .string ⟨#[]⟩, .string ⟨#[]⟩]))] := by rw [h37, h38]
  exact wp_built 52 _ [(0, (.agg #[.int .u8 6, .string ⟨#[]⟩, .string ⟨#[]⟩, .string ⟨#[]⟩, .bool false, .bool false, .slice (some ⟨b37, 0, none⟩) 3 3])), (1, (.agg #[.int .i64 0, .bool false, .string ⟨#[]⟩, .string ⟨#[]⟩]))] #[.int .u8 6, .string ⟨#[]⟩, .string ⟨#[]⟩, .string ⟨#[]⟩, .bool false, .bool false, .slice (some ⟨b37, 0, none⟩) 3 3, .int .i64 0, .bool false, .string ⟨#[]⟩, .string ⟨#[]⟩] rfl e (by kernel_rfl) (hK _ w (Turn.refl _ _) ⟨b37, rfl, k37⟩)
set_option maxRecDepth 20000 in
theorem r3_40 : R3 40 := by
  intro o ho p vs w hd K Q hK
  injection (show some _ = some o from ho) with ho
  subst ho
  exact wp_ms 37 46 3 40 9 _ _ #[.string ⟨#[]⟩, .string ⟨#[]⟩, .bool false] rfl Try.underlying37 (by kernel_rfl) (by kernel_rfl) rfl rfl (by decide) (by decide) (by decide) (by decide) (cells := (wcs kw9).toArray) (by kernel_rfl) (hK _ _ ((Turn.refl _ _).alloc _) ⟨w.heap.size, rfl, At.new _ _⟩)
set_option maxRecDepth 20000 in
theorem r3_41 : R3 41 := by
  intro o ho p vs w hd K Q hK
  injection (show some _ = some o from ho) with ho
  subst ho
  obtain ⟨b40, h40, k40⟩ : ∃ b, vs 40 = .slice (some ⟨b, 0, none⟩) 9 9 ∧ At w b (.cells (wcs kw9).toArray 46 (0, 0)) := hd 40 (by kernel_rfl)
  have e : ([(0, .int .u8 6), (6, vs 40)] : List (Nat × Value)) = [(0, .int .u8 6), (6, (.slice (some ⟨b40, 0, none⟩) 9 9))] := by rw [h40]
  exact wp_built 39 _ [(0, .int .u8 6), (6, (.slice (some ⟨b40, 0, none⟩) 9 9))] #[.int .u8 6, .string ⟨#[]⟩, .string ⟨#[]⟩, .string ⟨#[]⟩, .bool false, .bool false, .slice (some ⟨b40, 0, none⟩) 9 9] rfl e (by kernel_rfl) (hK _ w (Turn.refl _ _) ⟨b40, rfl, k40⟩)
set_option maxRecDepth 20000 in
theorem r3_42 : R3 42 := by
  intro o ho p vs w hd K Q hK
  injection (show some _ = some o from ho) with ho
  subst ho
  exact wp_built 35 _ [(0, .int .i64 3)] #[.int .i64 3, .bool false, .string ⟨#[]⟩, .string ⟨#[]⟩] rfl rfl (by kernel_rfl) (hK _ w (Turn.refl _ _) (show G3 42 w (.agg #[.int .i64 3, .bool false, .string ⟨#[]⟩, .string ⟨#[]⟩]) from (rfl : (.agg #[.int .i64 3, .bool false, .string ⟨#[]⟩, .string ⟨#[]⟩] : Value) = (.agg #[.int .i64 3, .bool false, .string ⟨#[]⟩, .string ⟨#[]⟩] : Value))))
set_option maxRecDepth 20000 in
theorem r3_43 : R3 43 := by
  intro o ho p vs w hd K Q hK
  injection (show some _ = some o from ho) with ho
  subst ho
  obtain ⟨b41, h41, k41⟩ : ∃ b, vs 41 = .agg #[.int .u8 6, .string ⟨#[]⟩, .string ⟨#[]⟩, .string ⟨#[]⟩, .bool false, .bool false, .slice (some ⟨b, 0, none⟩) 9 9] ∧ At w b (.cells (wcs kw9).toArray 46 (0, 0)) := hd 41 (by kernel_rfl)
  have h42 : vs 42 = .agg #[.int .i64 3, .bool false, .string ⟨#[]⟩, .string ⟨#[]⟩] := hd 42 (by kernel_rfl)
  have e : ([(0, vs 41), (1, vs 42)] : List (Nat × Value)) = [(0, (.agg #[.int .u8 6, .string ⟨#[]⟩, .string ⟨#[]⟩, .string ⟨#[]⟩, .bool false, .bool false, .slice (some ⟨b41, 0, none⟩) 9 9])), (1, (.agg #[.int .i64 3, .bool false, .string ⟨#[]⟩, .string ⟨#[]⟩]))] := by rw [h41, h42]
  exact wp_built 52 _ [(0, (.agg #[.int .u8 6, .string ⟨#[]⟩, .string ⟨#[]⟩, .string ⟨#[]⟩, .bool false, .bool false, .slice (some ⟨b41, 0, none⟩) 9 9])), (1, (.agg #[.int .i64 3, .bool false, .string ⟨#[]⟩, .string ⟨#[]⟩]))] #[.int .u8 6, .string ⟨#[]⟩, .string ⟨#[]⟩, .string ⟨#[]⟩, .bool false, .bool false, .slice (some ⟨b41, 0, none⟩) 9 9, .int .i64 3, .bool false, .string ⟨#[]⟩, .string ⟨#[]⟩] rfl e (by kernel_rfl) (hK _ w (Turn.refl _ _) ⟨b41, rfl, k41⟩)
set_option maxRecDepth 20000 in
theorem r3_44 : R3 44 := by
  intro o ho p vs w hd K Q hK
  injection (show some _ = some o from ho) with ho
  subst ho
  exact wp_built 39 _ [(0, .int .u8 9)] #[.int .u8 9, .string ⟨#[]⟩, .string ⟨#[]⟩, .string ⟨#[]⟩, .bool false, .bool false, .slice none 0 0] rfl rfl (by kernel_rfl) (hK _ w (Turn.refl _ _) (show G3 44 w (.agg #[.int .u8 9, .string ⟨#[]⟩, .string ⟨#[]⟩, .string ⟨#[]⟩, .bool false, .bool false, .slice none 0 0]) from (rfl : (.agg #[.int .u8 9, .string ⟨#[]⟩, .string ⟨#[]⟩, .string ⟨#[]⟩, .bool false, .bool false, .slice none 0 0] : Value) = (.agg #[.int .u8 9, .string ⟨#[]⟩, .string ⟨#[]⟩, .string ⟨#[]⟩, .bool false, .bool false, .slice none 0 0] : Value))))
set_option maxRecDepth 20000 in
theorem r3_45 : R3 45 := by
  intro o ho p vs w hd K Q hK
  injection (show some _ = some o from ho) with ho
  subst ho
  exact wp_built 35 _ [(0, .int .i64 20)] #[.int .i64 20, .bool false, .string ⟨#[]⟩, .string ⟨#[]⟩] rfl rfl (by kernel_rfl) (hK _ w (Turn.refl _ _) (show G3 45 w (.agg #[.int .i64 20, .bool false, .string ⟨#[]⟩, .string ⟨#[]⟩]) from (rfl : (.agg #[.int .i64 20, .bool false, .string ⟨#[]⟩, .string ⟨#[]⟩] : Value) = (.agg #[.int .i64 20, .bool false, .string ⟨#[]⟩, .string ⟨#[]⟩] : Value))))
set_option maxRecDepth 20000 in
theorem r3_46 : R3 46 := by
  intro o ho p vs w hd K Q hK
  injection (show some _ = some o from ho) with ho
  subst ho
  have h44 : vs 44 = .agg #[.int .u8 9, .string ⟨#[]⟩, .string ⟨#[]⟩, .string ⟨#[]⟩, .bool false, .bool false, .slice none 0 0] := hd 44 (by kernel_rfl)
  have h45 : vs 45 = .agg #[.int .i64 20, .bool false, .string ⟨#[]⟩, .string ⟨#[]⟩] := hd 45 (by kernel_rfl)
  have e : ([(0, vs 44), (1, vs 45)] : List (Nat × Value)) = [(0, (.agg #[.int .u8 9, .string ⟨#[]⟩, .string ⟨#[]⟩, .string ⟨#[]⟩, .bool false, .bool false, .slice none 0 0])), (1, (.agg #[.int .i64 20, .bool false, .string ⟨#[]⟩, .string ⟨#[]⟩]))] := by rw [h44, h45]
  exact wp_built 52 _ [(0, (.agg #[.int .u8 9, .string ⟨#[]⟩, .string ⟨#[]⟩, .string ⟨#[]⟩, .bool false, .bool false, .slice none 0 0])), (1, (.agg #[.int .i64 20, .bool false, .string ⟨#[]⟩, .string ⟨#[]⟩]))] #[.int .u8 9, .string ⟨#[]⟩, .string ⟨#[]⟩, .string ⟨#[]⟩, .bool false, .bool false, .slice none 0 0, .int .i64 20, .bool false, .string ⟨#[]⟩, .string ⟨#[]⟩] rfl e (by kernel_rfl) (hK _ w (Turn.refl _ _) (show G3 46 w (.agg #[.int .u8 9, .string ⟨#[]⟩, .string ⟨#[]⟩, .string ⟨#[]⟩, .bool false, .bool false, .slice none 0 0, .int .i64 20, .bool false, .string ⟨#[]⟩, .string ⟨#[]⟩]) from (rfl : (.agg #[.int .u8 9, .string ⟨#[]⟩, .string ⟨#[]⟩, .string ⟨#[]⟩, .bool false, .bool false, .slice none 0 0, .int .i64 20, .bool false, .string ⟨#[]⟩, .string ⟨#[]⟩] : Value) = (.agg #[.int .u8 9, .string ⟨#[]⟩, .string ⟨#[]⟩, .string ⟨#[]⟩, .bool false, .bool false, .slice none 0 0, .int .i64 20, .bool false, .string ⟨#[]⟩, .string ⟨#[]⟩] : Value))))
set_option maxRecDepth 20000 in
theorem r3_47 : R3 47 := by
  intro o ho p vs w hd K Q hK
  injection (show some _ = some o from ho) with ho
  subst ho
  exact wp_built 39 _ [] #[.int .u8 0, .string ⟨#[]⟩, .string ⟨#[]⟩, .string ⟨#[]⟩, .bool false, .bool false, .slice none 0 0] rfl rfl (by kernel_rfl) (hK _ w (Turn.refl _ _) (show G3 47 w (.agg #[.int .u8 0, .string ⟨#[]⟩, .string ⟨#[]⟩, .string ⟨#[]⟩, .bool false, .bool false, .slice none 0 0]) from (rfl : (.agg #[.int .u8 0, .string ⟨#[]⟩, .string ⟨#[]⟩, .string ⟨#[]⟩, .bool false, .bool false, .slice none 0 0] : Value) = (.agg #[.int .u8 0, .string ⟨#[]⟩, .string ⟨#[]⟩, .string ⟨#[]⟩, .bool false, .bool false, .slice none 0 0] : Value))))
set_option maxRecDepth 20000 in
theorem r3_48 : R3 48 := by
  intro o ho p vs w hd K Q hK
  injection (show some _ = some o from ho) with ho
  subst ho
  exact wp_built 35 _ [(0, .int .i64 20)] #[.int .i64 20, .bool false, .string ⟨#[]⟩, .string ⟨#[]⟩] rfl rfl (by kernel_rfl) (hK _ w (Turn.refl _ _) (show G3 48 w (.agg #[.int .i64 20, .bool false, .string ⟨#[]⟩, .string ⟨#[]⟩]) from (rfl : (.agg #[.int .i64 20, .bool false, .string ⟨#[]⟩, .string ⟨#[]⟩] : Value) = (.agg #[.int .i64 20, .bool false, .string ⟨#[]⟩, .string ⟨#[]⟩] : Value))))
set_option maxRecDepth 20000 in
theorem r3_49 : R3 49 := by
  intro o ho p vs w hd K Q hK
  injection (show some _ = some o from ho) with ho
  subst ho
  have h47 : vs 47 = .agg #[.int .u8 0, .string ⟨#[]⟩, .string ⟨#[]⟩, .string ⟨#[]⟩, .bool false, .bool false, .slice none 0 0] := hd 47 (by kernel_rfl)
  have h48 : vs 48 = .agg #[.int .i64 20, .bool false, .string ⟨#[]⟩, .string ⟨#[]⟩] := hd 48 (by kernel_rfl)
  have e : ([(0, vs 47), (1, vs 48)] : List (Nat × Value)) = [(0, (.agg #[.int .u8 0, .string ⟨#[]⟩, .string ⟨#[]⟩, .string ⟨#[]⟩, .bool false, .bool false, .slice none 0 0])), (1, (.agg #[.int .i64 20, .bool false, .string ⟨#[]⟩, .string ⟨#[]⟩]))] := by rw [h47, h48]
  exact wp_built 52 _ [(0, (.agg #[.int .u8 0, .string ⟨#[]⟩, .string ⟨#[]⟩, .string ⟨#[]⟩, .bool false, .bool false, .slice none 0 0])), (1, (.agg #[.int .i64 20, .bool false, .string ⟨#[]⟩, .string ⟨#[]⟩]))] #[.int .u8 0, .string ⟨#[]⟩, .string ⟨#[]⟩, .string ⟨#[]⟩, .bool false, .bool false, .slice none 0 0, .int .i64 20, .bool false, .string ⟨#[]⟩, .string ⟨#[]⟩] rfl e (by kernel_rfl) (hK _ w (Turn.refl _ _) (show G3 49 w (.agg #[.int .u8 0, .string ⟨#[]⟩, .string ⟨#[]⟩, .string ⟨#[]⟩, .bool false, .bool false, .slice none 0 0, .int .i64 20, .bool false, .string ⟨#[]⟩, .string ⟨#[]⟩]) from (rfl : (.agg #[.int .u8 0, .string ⟨#[]⟩, .string ⟨#[]⟩, .string ⟨#[]⟩, .bool false, .bool false, .slice none 0 0, .int .i64 20, .bool false, .string ⟨#[]⟩, .string ⟨#[]⟩] : Value) = (.agg #[.int .u8 0, .string ⟨#[]⟩, .string ⟨#[]⟩, .string ⟨#[]⟩, .bool false, .bool false, .slice none 0 0, .int .i64 20, .bool false, .string ⟨#[]⟩, .string ⟨#[]⟩] : Value))))
set_option maxRecDepth 20000 in
theorem r3_50 : R3 50 := by
  intro o ho p vs w hd K Q hK
  injection (show some _ = some o from ho) with ho
  subst ho
  exact wp_mv _ (.inl rfl) rfl (hK _ w (Turn.refl _ _) rfl)
set_option maxRecDepth 20000 in
theorem r3_51 : R3 51 := by
  intro o ho p vs w hd K Q hK
  injection (show some _ = some o from ho) with ho
  subst ho
  have h50 : vs 50 = .string ⟨#[48, 49, 50, 51, 52, 53, 54, 55, 56, 57, 48, 49, 50, 51, 52, 53, 54, 55, 56, 57, 48, 49, 50, 51, 52, 53, 54, 55, 56, 57, 48, 49, 50, 51]⟩ := hd 50 (by kernel_rfl)
  exact wp_sl 9 _ _ rfl (show _ = _ from h50) (v := .string ⟨#[48, 49, 50, 51, 52, 53, 54, 55, 56, 57, 48, 49, 50, 51, 52, 53, 54, 55, 56, 57, 48, 49, 50, 51]⟩) (by kernel_rfl) (hK _ w (Turn.refl _ _) rfl)
set_option maxRecDepth 20000 in
theorem r3_52 : R3 52 := by
  intro o ho p vs w hd K Q hK
  injection (show some _ = some o from ho) with ho
  subst ho
  exact wp_mv _ (.inl rfl) rfl (hK _ w (Turn.refl _ _) rfl)
set_option maxRecDepth 20000 in
theorem r3_53 : R3 53 := by
  intro o ho p vs w hd K Q hK
  injection (show some _ = some o from ho) with ho
  subst ho
  have h52 : vs 52 = .string ⟨#[48, 49, 50, 51, 52, 53, 54, 55, 56, 57, 48, 49, 50, 51, 52, 53, 54, 55, 56, 57, 48, 49, 50, 51, 52, 53, 54, 55, 56, 57, 48, 49, 50, 51]⟩ := hd 52 (by kernel_rfl)
  exact wp_sl 9 _ _ rfl (show _ = _ from h52) (v := .string ⟨#[48, 49, 50, 51, 52, 53, 54, 55, 56, 57, 48, 49, 50, 51, 52, 53, 54, 55, 56, 57, 48, 49, 50, 51, 52, 53, 54, 55, 56, 57, 48, 49]⟩) (by kernel_rfl) (hK _ w (Turn.refl _ _) rfl)
set_option maxRecDepth 20000 in
theorem r3_54 : R3 54 := by
  intro o ho p vs w hd K Q hK
  injection (show some _ = some o from ho) with ho
  subst ho
  have h51 : vs 51 = .string ⟨#[48, 49, 50, 51, 52, 53, 54, 55, 56, 57, 48, 49, 50, 51, 52, 53, 54, 55, 56, 57, 48, 49, 50, 51]⟩ := hd 51 (by kernel_rfl)
  have h53 : vs 53 = .string ⟨#[48, 49, 50, 51, 52, 53, 54, 55, 56, 57, 48, 49, 50, 51, 52, 53, 54, 55, 56, 57, 48, 49, 50, 51, 52, 53, 54, 55, 56, 57, 48, 49]⟩ := hd 53 (by kernel_rfl)
  have e : ([(0, .int .u8 2), (1, vs 51), (2, vs 53)] : List (Nat × Value)) = [(0, .int .u8 2), (1, (.string ⟨#[48, 49, 50, 51, 52, 53, 54, 55, 56, 57, 48, 49, 50, 51, 52, 53, 54, 55, 56, 57, 48, 49, 50, 51]⟩)), (2, (.string ⟨#[48, 49, 50, 51, 52, 53, 54, 55, 56, 57, 48, 49, 50, 51, 52, 53, 54, 55, 56, 57, 48, 49, 50, 51, 52, 53, 54, 55, 56, 57, 48, 49]⟩))] := by rw [h51, h53]
  exact wp_built 39 _ [(0, .int .u8 2), (1, (.string ⟨#[48, 49, 50, 51, 52, 53, 54, 55, 56, 57, 48, 49, 50, 51, 52, 53, 54, 55, 56, 57, 48, 49, 50, 51]⟩)), (2, (.string ⟨#[48, 49, 50, 51, 52, 53, 54, 55, 56, 57, 48, 49, 50, 51, 52, 53, 54, 55, 56, 57, 48, 49, 50, 51, 52, 53, 54, 55, 56, 57, 48, 49]⟩))] #[.int .u8 2, .string ⟨#[48, 49, 50, 51, 52, 53, 54, 55, 56, 57, 48, 49, 50, 51, 52, 53, 54, 55, 56, 57, 48, 49, 50, 51]⟩, .string ⟨#[48, 49, 50, 51, 52, 53, 54, 55, 56, 57, 48, 49, 50, 51, 52, 53, 54, 55, 56, 57, 48, 49, 50, 51, 52, 53, 54, 55, 56, 57, 48, 49]⟩, .string ⟨#[]⟩, .bool false, .bool false, .slice none 0 0] rfl e (by kernel_rfl) (hK _ w (Turn.refl _ _) (show G3 54 w (.agg #[.int .u8 2, .string ⟨#[48, 49, 50, 51, 52, 53, 54, 55, 56, 57, 48, 49, 50, 51, 52, 53, 54, 55, 56, 57, 48, 49, 50, 51]⟩, .string ⟨#[48, 49, 50, 51, 52, 53, 54, 55, 56, 57, 48, 49, 50, 51, 52, 53, 54, 55, 56, 57, 48, 49, 50, 51, 52, 53, 54, 55, 56, 57, 48, 49]⟩, .string ⟨#[]⟩, .bool false, .bool false, .slice none 0 0]) from (rfl : (.agg #[.int .u8 2, .string ⟨#[48, 49, 50, 51, 52, 53, 54, 55, 56, 57, 48, 49, 50, 51, 52, 53, 54, 55, 56, 57, 48, 49, 50, 51]⟩, .string ⟨#[48, 49, 50, 51, 52, 53, 54, 55, 56, 57, 48, 49, 50, 51, 52, 53, 54, 55, 56, 57, 48, 49, 50, 51, 52, 53, 54, 55, 56, 57, 48, 49]⟩, .string ⟨#[]⟩, .bool false, .bool false, .slice none 0 0] : Value) = (.agg #[.int .u8 2, .string ⟨#[48, 49, 50, 51, 52, 53, 54, 55, 56, 57, 48, 49, 50, 51, 52, 53, 54, 55, 56, 57, 48, 49, 50, 51]⟩, .string ⟨#[48, 49, 50, 51, 52, 53, 54, 55, 56, 57, 48, 49, 50, 51, 52, 53, 54, 55, 56, 57, 48, 49, 50, 51, 52, 53, 54, 55, 56, 57, 48, 49]⟩, .string ⟨#[]⟩, .bool false, .bool false, .slice none 0 0] : Value))))
set_option maxRecDepth 20000 in
theorem r3_55 : R3 55 := by
  intro o ho p vs w hd K Q hK
  injection (show some _ = some o from ho) with ho
  subst ho
  exact wp_built 35 _ [] #[.int .i64 0, .bool false, .string ⟨#[]⟩, .string ⟨#[]⟩] rfl rfl (by kernel_rfl) (hK _ w (Turn.refl _ _) (show G3 55 w (.agg #[.int .i64 0, .bool false, .string ⟨#[]⟩, .string ⟨#[]⟩]) from (rfl : (.agg #[.int .i64 0, .bool false, .string ⟨#[]⟩, .string ⟨#[]⟩] : Value) = (.agg #[.int .i64 0, .bool false, .string ⟨#[]⟩, .string ⟨#[]⟩] : Value))))
set_option maxRecDepth 20000 in
theorem r3_56 : R3 56 := by
  intro o ho p vs w hd K Q hK
  injection (show some _ = some o from ho) with ho
  subst ho
  have h54 : vs 54 = .agg #[.int .u8 2, .string ⟨#[48, 49, 50, 51, 52, 53, 54, 55, 56, 57, 48, 49, 50, 51, 52, 53, 54, 55, 56, 57, 48, 49, 50, 51]⟩, .string ⟨#[48, 49, 50, 51, 52, 53, 54, 55, 56, 57, 48, 49, 50, 51, 52, 53, 54, 55, 56, 57, 48, 49, 50, 51, 52, 53, 54, 55, 56, 57, 48, 49]⟩, .string ⟨#[]⟩, .bool false, .bool false, .slice none 0 0] := hd 54 (by kernel_rfl)
  have h55 : vs 55 = .agg #[.int .i64 0, .bool false, .string ⟨#[]⟩, .string ⟨#[]⟩] := hd 55 (by kernel_rfl)
  have e : ([(0, vs 54), (1, vs 55)] : List (Nat × Value)) = [(0, (.agg #[.int .u8 2, .string ⟨#[48, 49, 50, 51, 52, 53, 54, 55, 56, 57, 48, 49, 50, 51, 52, 53, 54, 55, 56, 57, 48, 49, 50, 51]⟩, .string ⟨#[48, 49, 50, 51, 52, 53, 54, 55, 56, 57, 48, 49, 50, 51, 52, 53, 54, 55, 56, 57, 48, 49, 50, 51, 52, 53, 54, 55, 56, 57, 48, 49]⟩, .string ⟨#[]⟩, .bool false, .bool false, .slice none 0 0])), (1, (.agg #[.int .i64 0, .bool false, .string ⟨#[]⟩, .string ⟨#[]⟩]))] := by rw [h54, h55]
  exact wp_built 52 _ [(0, (.agg #[.int .u8 2, .string ⟨#[48, 49, 50, 51, 52, 53, 54, 55, 56, 57, 48, 49, 50, 51, 52, 53, 54, 55, 56, 57, 48, 49, 50, 51]⟩, .string ⟨#[48, 49, 50, 51, 52, 53, 54, 55, 56, 57, 48, 49, 50, 51, 52, 53, 54, 55, 56, 57, 48, 49, 50, 51, 52, 53, 54, 55, 56, 57, 48, 49]⟩, .string ⟨#[]⟩, .bool false, .bool false, .slice none 0 0])), (1, (.agg #[.int .i64 0, .bool false, .string ⟨#[]⟩, .string ⟨#[]⟩]))] #[.int .u8 2, .string ⟨#[48, 49, 50, 51, 52, 53, 54, 55, 56, 57, 48, 49, 50, 51, 52, 53, 54, 55, 56, 57, 48, 49, 50, 51]⟩, .string ⟨#[48, 49, 50, 51, 52, 53, 54, 55, 56, 57, 48, 49, 50, 51, 52, 53, 54, 55, 56, 57, 48, 49, 50, 51, 52, 53, 54, 55, 56, 57, 48, 49]⟩, .string ⟨#[]⟩, .bool false, .bool false, .slice none 0 0, .int .i64 0, .bool false, .string ⟨#[]⟩, .string ⟨#[]⟩] rfl e (by kernel_rfl) (hK _ w (Turn.refl _ _) (show G3 56 w (.agg #[.int .u8 2, .string ⟨#[48, 49, 50, 51, 52, 53, 54, 55, 56, 57, 48, 49, 50, 51, 52, 53, 54, 55, 56, 57, 48, 49, 50, 51]⟩, .string ⟨#[48, 49, 50, 51, 52, 53, 54, 55, 56, 57, 48, 49, 50, 51, 52, 53, 54, 55, 56, 57, 48, 49, 50, 51, 52, 53, 54, 55, 56, 57, 48, 49]⟩, .string ⟨#[]⟩, .bool false, .bool false, .slice none 0 0, .int .i64 0, .bool false, .string ⟨#[]⟩, .string ⟨#[]⟩]) from (rfl : (.agg #[.int .u8 2, .string ⟨#[48, 49, 50, 51, 52, 53, 54, 55, 56, 57, 48, 49, 50, 51, 52, 53, 54, 55, 56, 57, 48, 49, 50, 51]⟩, .string ⟨#[48, 49, 50, 51, 52, 53, 54, 55, 56, 57, 48, 49, 50, 51, 52, 53, 54, 55, 56, 57, 48, 49, 50, 51, 52, 53, 54, 55, 56, 57, 48, 49]⟩, .string ⟨#[]⟩, .bool false, .bool false, .slice none 0 0, .int .i64 0, .bool false, .string ⟨#[]⟩, .string ⟨#[]⟩] : Value) = (.agg #[.int .u8 2, .string ⟨#[48, 49, 50, 51, 52, 53, 54, 55, 56, 57, 48, 49, 50, 51, 52, 53, 54, 55, 56, 57, 48, 49, 50, 51]⟩, .string ⟨#[48, 49, 50, 51, 52, 53, 54, 55, 56, 57, 48, 49, 50, 51, 52, 53, 54, 55, 56, 57, 48, 49, 50, 51, 52, 53, 54, 55, 56, 57, 48, 49]⟩, .string ⟨#[]⟩, .bool false, .bool false, .slice none 0 0, .int .i64 0, .bool false, .string ⟨#[]⟩, .string ⟨#[]⟩] : Value))))
set_option maxRecDepth 20000 in
theorem r3_57 : R3 57 := by
  intro o ho p vs w hd K Q hK
  injection (show some _ = some o from ho) with ho
  subst ho
  exact wp_mv _ (.inl rfl) rfl (hK _ w (Turn.refl _ _) rfl)
set_option maxRecDepth 20000 in
theorem r3_58 : R3 58 := by
  intro o ho p vs w hd K Q hK
  injection (show some _ = some o from ho) with ho
  subst ho
  have h57 : vs 57 = .string ⟨#[48, 49, 50, 51, 52, 53, 54, 55, 56, 57, 48, 49, 50, 51, 52, 53, 54, 55, 56, 57, 48, 49, 50, 51, 52, 53, 54, 55, 56, 57, 48, 49, 50, 51]⟩ := hd 57 (by kernel_rfl)
  exact wp_sl 9 _ _ rfl (show _ = _ from h57) (v := .string ⟨#[48, 49, 50, 51, 52, 53, 54, 55, 56, 57, 48, 49, 50, 51, 52, 53, 54, 55, 56, 57, 48, 49, 50, 51, 52]⟩) (by kernel_rfl) (hK _ w (Turn.refl _ _) rfl)
set_option maxRecDepth 20000 in
theorem r3_59 : R3 59 := by
  intro o ho p vs w hd K Q hK
  injection (show some _ = some o from ho) with ho
  subst ho
  have h58 : vs 58 = .string ⟨#[48, 49, 50, 51, 52, 53, 54, 55, 56, 57, 48, 49, 50, 51, 52, 53, 54, 55, 56, 57, 48, 49, 50, 51, 52]⟩ := hd 58 (by kernel_rfl)
  have e : ([(0, .int .u8 2), (1, vs 58)] : List (Nat × Value)) = [(0, .int .u8 2), (1, (.string ⟨#[48, 49, 50, 51, 52, 53, 54, 55, 56, 57, 48, 49, 50, 51, 52, 53, 54, 55, 56, 57, 48, 49, 50, 51, 52]⟩))] := by rw [h58]
  exact wp_built 39 _ [(0, .int .u8 2), (1, (.string ⟨#[48, 49, 50, 51, 52, 53, 54, 55, 56, 57, 48, 49, 50, 51, 52, 53, 54, 55, 56, 57, 48, 49, 50, 51, 52]⟩))] #[.int .u8 2, .string ⟨#[48, 49, 50, 51, 52, 53, 54, 55, 56, 57, 48, 49, 50, 51, 52, 53, 54, 55, 56, 57, 48, 49, 50, 51, 52]⟩, .string ⟨#[]⟩, .string ⟨#[]⟩, .bool false, .bool false, .slice none 0 0] rfl e (by kernel_rfl) (hK _ w (Turn.refl _ _) (show G3 59 w (.agg #[.int .u8 2, .string ⟨#[48, 49, 50, 51, 52, 53, 54, 55, 56, 57, 48, 49, 50, 51, 52, 53, 54, 55, 56, 57, 48, 49, 50, 51, 52]⟩, .string ⟨#[]⟩, .string ⟨#[]⟩, .bool false, .bool false, .slice none 0 0]) from (rfl : (.agg #[.int .u8 2, .string ⟨#[48, 49, 50, 51, 52, 53, 54, 55, 56, 57, 48, 49, 50, 51, 52, 53, 54, 55, 56, 57, 48, 49, 50, 51, 52]⟩, .string ⟨#[]⟩, .string ⟨#[]⟩, .bool false, .bool false, .slice none 0 0] : Value) = (.agg #[.int .u8 2, .string ⟨#[48, 49, 50, 51, 52, 53, 54, 55, 56, 57, 48, 49, 50, 51, 52, 53, 54, 55, 56, 57, 48, 49, 50, 51, 52]⟩, .string ⟨#[]⟩, .string ⟨#[]⟩, .bool false, .bool false, .slice none 0 0] : Value))))
set_option maxRecDepth 20000 in
theorem r3_60 : R3 60 := by
  intro o ho p vs w hd K Q hK
  injection (show some _ = some o from ho) with ho
  subst ho
  exact wp_built 35 _ [(0, .int .i64 7)] #[.int .i64 7, .bool false, .string ⟨#[]⟩, .string ⟨#[]⟩] rfl rfl (by kernel_rfl) (hK _ w (Turn.refl _ _) (show G3 60 w (.agg #[.int .i64 7, .bool false, .string ⟨#[]⟩, .string ⟨#[]⟩]) from (rfl : (.agg #[.int .i64 7, .bool false, .string ⟨#[]⟩, .string ⟨#[]⟩] : Value) = (.agg #[.int .i64 7, .bool false, .string ⟨#[]⟩, .string ⟨#[]⟩] : Value))))
set_option maxRecDepth 20000 in
theorem r3_61 : R3 61 := by
  intro o ho p vs w hd K Q hK
  injection (show some _ = some o from ho) with ho
  subst ho
  have h59 : vs 59 = .agg #[.int .u8 2, .string ⟨#[48, 49, 50, 51, 52, 53, 54, 55, 56, 57, 48, 49, 50, 51, 52, 53, 54, 55, 56, 57, 48, 49, 50, 51, 52]⟩, .string ⟨#[]⟩, .string ⟨#[]⟩, .bool false, .bool false, .slice none 0 0] := hd 59 (by kernel_rfl)
  have h60 : vs 60 = .agg #[.int .i64 7, .bool false, .string ⟨#[]⟩, .string ⟨#[]⟩] := hd 60 (by kernel_rfl)
  have e : ([(0, vs 59), (1, vs 60)] : List (Nat × Value)) = [(0, (.agg #[.int .u8 2, .string ⟨#[48, 49, 50, 51, 52, 53, 54, 55, 56, 57, 48, 49, 50, 51, 52, 53, 54, 55, 56, 57, 48, 49, 50, 51, 52]⟩, .string ⟨#[]⟩, .string ⟨#[]⟩, .bool false, .bool false, .slice none 0 0])), (1, (.agg #[.int .i64 7, .bool false, .string ⟨#[]⟩, .string ⟨#[]⟩]))] := by rw [h59, h60]
  exact wp_built 52 _ [(0, (.agg #[.int .u8 2, .string ⟨#[48, 49, 50, 51, 52, 53, 54, 55, 56, 57, 48, 49, 50, 51, 52, 53, 54, 55, 56, 57, 48, 49, 50, 51, 52]⟩, .string ⟨#[]⟩, .string ⟨#[]⟩, .bool false, .bool false, .slice none 0 0])), (1, (.agg #[.int .i64 7, .bool false, .string ⟨#[]⟩, .string ⟨#[]⟩]))] #[.int .u8 2, .string ⟨#[48, 49, 50, 51, 52, 53, 54, 55, 56, 57, 48, 49, 50, 51, 52, 53, 54, 55, 56, 57, 48, 49, 50, 51, 52]⟩, .string ⟨#[]⟩, .string ⟨#[]⟩, .bool false, .bool false, .slice none 0 0, .int .i64 7, .bool false, .string ⟨#[]⟩, .string ⟨#[]⟩] rfl e (by kernel_rfl) (hK _ w (Turn.refl _ _) (show G3 61 w (.agg #[.int .u8 2, .string ⟨#[48, 49, 50, 51, 52, 53, 54, 55, 56, 57, 48, 49, 50, 51, 52, 53, 54, 55, 56, 57, 48, 49, 50, 51, 52]⟩, .string ⟨#[]⟩, .string ⟨#[]⟩, .bool false, .bool false, .slice none 0 0, .int .i64 7, .bool false, .string ⟨#[]⟩, .string ⟨#[]⟩]) from (rfl : (.agg #[.int .u8 2, .string ⟨#[48, 49, 50, 51, 52, 53, 54, 55, 56, 57, 48, 49, 50, 51, 52, 53, 54, 55, 56, 57, 48, 49, 50, 51, 52]⟩, .string ⟨#[]⟩, .string ⟨#[]⟩, .bool false, .bool false, .slice none 0 0, .int .i64 7, .bool false, .string ⟨#[]⟩, .string ⟨#[]⟩] : Value) = (.agg #[.int .u8 2, .string ⟨#[48, 49, 50, 51, 52, 53, 54, 55, 56, 57, 48, 49, 50, 51, 52, 53, 54, 55, 56, 57, 48, 49, 50, 51, 52]⟩, .string ⟨#[]⟩, .string ⟨#[]⟩, .bool false, .bool false, .slice none 0 0, .int .i64 7, .bool false, .string ⟨#[]⟩, .string ⟨#[]⟩] : Value))))
set_option maxRecDepth 20000 in
theorem r3_62 : R3 62 := by
  intro o ho p vs w hd K Q hK
  injection (show some _ = some o from ho) with ho
  subst ho
  exact wp_mv _ (.inl rfl) rfl (hK _ w (Turn.refl _ _) rfl)
set_option maxRecDepth 20000 in
theorem r3_63 : R3 63 := by
  intro o ho p vs w hd K Q hK
  injection (show some _ = some o from ho) with ho
  subst ho
  have h62 : vs 62 = .string ⟨#[48, 49, 50, 51, 52, 53, 54, 55, 56, 57, 48, 49, 50, 51, 52, 53, 54, 55, 56, 57, 48, 49, 50, 51, 52, 53, 54, 55, 56, 57, 48, 49, 50, 51]⟩ := hd 62 (by kernel_rfl)
  exact wp_sl 9 _ _ rfl (show _ = _ from h62) (v := .string ⟨#[48, 49, 50, 51, 52, 53, 54, 55, 56, 57, 48, 49, 50, 51, 52, 53, 54, 55, 56, 57, 48, 49, 50, 51, 52, 53, 54, 55, 56, 57, 48, 49, 50]⟩) (by kernel_rfl) (hK _ w (Turn.refl _ _) rfl)
set_option maxRecDepth 20000 in
theorem r3_64 : R3 64 := by
  intro o ho p vs w hd K Q hK
  injection (show some _ = some o from ho) with ho
  subst ho
  have h63 : vs 63 = .string ⟨#[48, 49, 50, 51, 52, 53, 54, 55, 56, 57, 48, 49, 50, 51, 52, 53, 54, 55, 56, 57, 48, 49, 50, 51, 52, 53, 54, 55, 56, 57, 48, 49, 50]⟩ := hd 63 (by kernel_rfl)
  have e : ([(0, .int .u8 2), (1, .string ⟨#[107]⟩), (2, vs 63)] : List (Nat × Value)) = [(0, .int .u8 2), (1, .string ⟨#[107]⟩), (2, (.string ⟨#[48, 49, 50, 51, 52, 53, 54, 55, 56, 57, 48, 49, 50, 51, 52, 53, 54, 55, 56, 57, 48, 49, 50, 51, 52, 53, 54, 55, 56, 57, 48, 49, 50]⟩))] := by rw [h63]
  exact wp_built 39 _ [(0, .int .u8 2), (1, .string ⟨#[107]⟩), (2, (.string ⟨#[48, 49, 50, 51, 52, 53, 54, 55, 56, 57, 48, 49, 50, 51, 52, 53, 54, 55, 56, 57, 48, 49, 50, 51, 52, 53, 54, 55, 56, 57, 48, 49, 50]⟩))] #[.int .u8 2, .string ⟨#[107]⟩, .string ⟨#[48, 49, 50, 51, 52, 53, 54, 55, 56, 57, 48, 49, 50, 51, 52, 53, 54, 55, 56, 57, 48, 49, 50, 51, 52, 53, 54, 55, 56, 57, 48, 49, 50]⟩, .string ⟨#[]⟩, .bool false, .bool false, .slice none 0 0] rfl e (by kernel_rfl) (hK _ w (Turn.refl _ _) (show G3 64 w (.agg #[.int .u8 2, .string ⟨#[107]⟩, .string ⟨#[48, 49, 50, 51, 52, 53, 54, 55, 56, 57, 48, 49, 50, 51, 52, 53, 54, 55, 56, 57, 48, 49, 50, 51, 52, 53, 54, 55, 56, 57, 48, 49, 50]⟩, .string ⟨#[]⟩, .bool false, .bool false, .slice none 0 0]) from (rfl : (.agg #[.int .u8 2, .string ⟨#[107]⟩, .string ⟨#[48, 49, 50, 51, 52, 53, 54, 55, 56, 57, 48, 49, 50, 51, 52, 53, 54, 55, 56, 57, 48, 49, 50, 51, 52, 53, 54, 55, 56, 57, 48, 49, 50]⟩, .string ⟨#[]⟩, .bool false, .bool false, .slice none 0 0] : Value) = (.agg #[.int .u8 2, .string ⟨#[107]⟩, .string ⟨#[48, 49, 50, 51, 52, 53, 54, 55, 56, 57, 48, 49, 50, 51, 52, 53, 54, 55, 56, 57, 48, 49, 50, 51, 52, 53, 54, 55, 56, 57, 48, 49, 50]⟩, .string ⟨#[]⟩, .bool false, .bool false, .slice none 0 0] : Value))))
set_option maxRecDepth 20000 in
theorem r3_65 : R3 65 := by
  intro o ho p vs w hd K Q hK
  injection (show some _ = some o from ho) with ho
  subst ho
  exact wp_built 35 _ [(0, .int .i64 7)] #[.int .i64 7, .bool false, .string ⟨#[]⟩, .string ⟨#[]⟩] rfl rfl (by kernel_rfl) (hK _ w (Turn.refl _ _) (show G3 65 w (.agg #[.int .i64 7, .bool false, .string ⟨#[]⟩, .string ⟨#[]⟩]) from (rfl : (.agg #[.int .i64 7, .bool false, .string ⟨#[]⟩, .string ⟨#[]⟩] : Value) = (.agg #[.int .i64 7, .bool false, .string ⟨#[]⟩, .string ⟨#[]⟩] : Value))))
set_option maxRecDepth 20000 in
theorem r3_66 : R3 66 := by
  intro o ho p vs w hd K Q hK
  injection (show some _ = some o from ho) with ho
  subst ho
  have h64 : vs 64 = .agg #[.int .u8 2, .string ⟨#[107]⟩, .string ⟨#[48, 49, 50, 51, 52, 53, 54, 55, 56, 57, 48, 49, 50, 51, 52, 53, 54, 55, 56, 57, 48, 49, 50, 51, 52, 53, 54, 55, 56, 57, 48, 49, 50]⟩, .string ⟨#[]⟩, .bool false, .bool false, .slice none 0 0] := hd 64 (by kernel_rfl)
  have h65 : vs 65 = .agg #[.int .i64 7, .bool false, .string ⟨#[]⟩, .string ⟨#[]⟩] := hd 65 (by kernel_rfl)
  have e : ([(0, vs 64), (1, vs 65)] : List (Nat × Value)) = [(0, (.agg #[.int .u8 2, .string ⟨#[107]⟩, .string ⟨#[48, 49, 50, 51, 52, 53, 54, 55, 56, 57, 48, 49, 50, 51, 52, 53, 54, 55, 56, 57, 48, 49, 50, 51, 52, 53, 54, 55, 56, 57, 48, 49, 50]⟩, .string ⟨#[]⟩, .bool false, .bool false, .slice none 0 0])), (1, (.agg #[.int .i64 7, .bool false, .string ⟨#[]⟩, .string ⟨#[]⟩]))] := by rw [h64, h65]
  exact wp_built 52 _ [(0, (.agg #[.int .u8 2, .string ⟨#[107]⟩, .string ⟨#[48, 49, 50, 51, 52, 53, 54, 55, 56, 57, 48, 49, 50, 51, 52, 53, 54, 55, 56, 57, 48, 49, 50, 51, 52, 53, 54, 55, 56, 57, 48, 49, 50]⟩, .string ⟨#[]⟩, .bool false, .bool false, .slice none 0 0])), (1, (.agg #[.int .i64 7, .bool false, .string ⟨#[]⟩, .string ⟨#[]⟩]))] #[.int .u8 2, .string ⟨#[107]⟩, .string ⟨#[48, 49, 50, 51, 52, 53, 54, 55, 56, 57, 48, 49, 50, 51, 52, 53, 54, 55, 56, 57, 48, 49, 50, 51, 52, 53, 54, 55, 56, 57, 48, 49, 50]⟩, .string ⟨#[]⟩, .bool false, .bool false, .slice none 0 0, .int .i64 7, .bool false, .string ⟨#[]⟩, .string ⟨#[]⟩] rfl e (by kernel_rfl) (hK _ w (Turn.refl _ _) (show G3 66 w (.agg #[.int .u8 2, .string ⟨#[107]⟩, .string ⟨#[48, 49, 50, 51, 52, 53, 54, 55, 56, 57, 48, 49, 50, 51, 52, 53, 54, 55, 56, 57, 48, 49, 50, 51, 52, 53, 54, 55, 56, 57, 48, 49, 50]⟩, .string ⟨#[]⟩, .bool false, .bool false, .slice none 0 0, .int .i64 7, .bool false, .string ⟨#[]⟩, .string ⟨#[]⟩]) from (rfl : (.agg #[.int .u8 2, .string ⟨#[107]⟩, .string ⟨#[48, 49, 50, 51, 52, 53, 54, 55, 56, 57, 48, 49, 50, 51, 52, 53, 54, 55, 56, 57, 48, 49, 50, 51, 52, 53, 54, 55, 56, 57, 48, 49, 50]⟩, .string ⟨#[]⟩, .bool false, .bool false, .slice none 0 0, .int .i64 7, .bool false, .string ⟨#[]⟩, .string ⟨#[]⟩] : Value) = (.agg #[.int .u8 2, .string ⟨#[107]⟩, .string ⟨#[48, 49, 50, 51, 52, 53, 54, 55, 56, 57, 48, 49, 50, 51, 52, 53, 54, 55, 56, 57, 48, 49, 50, 51, 52, 53, 54, 55, 56, 57, 48, 49, 50]⟩, .string ⟨#[]⟩, .bool false, .bool false, .slice none 0 0, .int .i64 7, .bool false, .string ⟨#[]⟩, .string ⟨#[]⟩] : Value))))
set_option maxRecDepth 20000 in
theorem r3_67 : R3 67 := by
  intro o ho p vs w hd K Q hK
  injection (show some _ = some o from ho) with ho
  subst ho
  exact wp_mv _ (.inl rfl) rfl (hK _ w (Turn.refl _ _) rfl)
set_option maxRecDepth 20000 in
theorem r3_68 : R3 68 := by
  intro o ho p vs w hd K Q hK
  injection (show some _ = some o from ho) with ho
  subst ho
  have h67 : vs 67 = .string ⟨#[48, 49, 50, 51, 52, 53, 54, 55, 56, 57, 48, 49, 50, 51, 52, 53, 54, 55, 56, 57, 48, 49, 50, 51, 52, 53, 54, 55, 56, 57, 48, 49, 50, 51]⟩ := hd 67 (by kernel_rfl)
  exact wp_sl 9 _ _ rfl (show _ = _ from h67) (v := .string ⟨#[48, 49, 50, 51, 52, 53, 54, 55, 56, 57, 48, 49, 50, 51, 52, 53, 54, 55, 56, 57, 48, 49, 50, 51]⟩) (by kernel_rfl) (hK _ w (Turn.refl _ _) rfl)
set_option maxRecDepth 20000 in
theorem r3_69 : R3 69 := by
  intro o ho p vs w hd K Q hK
  injection (show some _ = some o from ho) with ho
  subst ho
  have h68 : vs 68 = .string ⟨#[48, 49, 50, 51, 52, 53, 54, 55, 56, 57, 48, 49, 50, 51, 52, 53, 54, 55, 56, 57, 48, 49, 50, 51]⟩ := hd 68 (by kernel_rfl)
  have e : ([(0, .int .u8 3), (1, vs 68)] : List (Nat × Value)) = [(0, .int .u8 3), (1, (.string ⟨#[48, 49, 50, 51, 52, 53, 54, 55, 56, 57, 48, 49, 50, 51, 52, 53, 54, 55, 56, 57, 48, 49, 50, 51]⟩))] := by rw [h68]
  exact wp_built 39 _ [(0, .int .u8 3), (1, (.string ⟨#[48, 49, 50, 51, 52, 53, 54, 55, 56, 57, 48, 49, 50, 51, 52, 53, 54, 55, 56, 57, 48, 49, 50, 51]⟩))] #[.int .u8 3, .string ⟨#[48, 49, 50, 51, 52, 53, 54, 55, 56, 57, 48, 49, 50, 51, 52, 53, 54, 55, 56, 57, 48, 49, 50, 51]⟩, .string ⟨#[]⟩, .string ⟨#[]⟩, .bool false, .bool false, .slice none 0 0] rfl e (by kernel_rfl) (hK _ w (Turn.refl _ _) (show G3 69 w (.agg #[.int .u8 3, .string ⟨#[48, 49, 50, 51, 52, 53, 54, 55, 56, 57, 48, 49, 50, 51, 52, 53, 54, 55, 56, 57, 48, 49, 50, 51]⟩, .string ⟨#[]⟩, .string ⟨#[]⟩, .bool false, .bool false, .slice none 0 0]) from (rfl : (.agg #[.int .u8 3, .string ⟨#[48, 49, 50, 51, 52, 53, 54, 55, 56, 57, 48, 49, 50, 51, 52, 53, 54, 55, 56, 57, 48, 49, 50, 51]⟩, .string ⟨#[]⟩, .string ⟨#[]⟩, .bool false, .bool false, .slice none 0 0] : Value) = (.agg #[.int .u8 3, .string ⟨#[48, 49, 50, 51, 52, 53, 54, 55, 56, 57, 48, 49, 50, 51, 52, 53, 54, 55, 56, 57, 48, 49, 50, 51]⟩, .string ⟨#[]⟩, .string ⟨#[]⟩, .bool false, .bool false, .slice none 0 0] : Value))))
set_option maxRecDepth 20000 in
theorem r3_70 : R3 70 := by
  intro o ho p vs w hd K Q hK
  injection (show some _ = some o from ho) with ho
  subst ho
  exact wp_mv _ (.inl rfl) rfl (hK _ w (Turn.refl _ _) rfl)
set_option maxRecDepth 20000 in
theorem r3_71 : R3 71 := by
  intro o ho p vs w hd K Q hK
  injection (show some _ = some o from ho) with ho
  subst ho
  have h70 : vs 70 = .string ⟨#[48, 49, 50, 51, 52, 53, 54, 55, 56, 57, 48, 49, 50, 51, 52, 53, 54, 55, 56, 57, 48, 49, 50, 51, 52, 53, 54, 55, 56, 57, 48, 49, 50, 51]⟩ := hd 70 (by kernel_rfl)
  exact wp_sl 9 _ _ rfl (show _ = _ from h70) (v := .string ⟨#[48, 49, 50, 51, 52, 53, 54, 55, 56, 57, 48, 49, 50, 51, 52, 53, 54, 55, 56, 57, 48, 49, 50, 51, 52, 53, 54, 55, 56, 57, 48, 49]⟩) (by kernel_rfl) (hK _ w (Turn.refl _ _) rfl)
set_option maxRecDepth 20000 in
theorem r3_72 : R3 72 := by
  intro o ho p vs w hd K Q hK
  injection (show some _ = some o from ho) with ho
  subst ho
  have h71 : vs 71 = .string ⟨#[48, 49, 50, 51, 52, 53, 54, 55, 56, 57, 48, 49, 50, 51, 52, 53, 54, 55, 56, 57, 48, 49, 50, 51, 52, 53, 54, 55, 56, 57, 48, 49]⟩ := hd 71 (by kernel_rfl)
  have e : ([(1, .bool true), (3, vs 71)] : List (Nat × Value)) = [(1, .bool true), (3, (.string ⟨#[48, 49, 50, 51, 52, 53, 54, 55, 56, 57, 48, 49, 50, 51, 52, 53, 54, 55, 56, 57, 48, 49, 50, 51, 52, 53, 54, 55, 56, 57, 48, 49]⟩))] := by rw [h71]
  exact wp_built 35 _ [(1, .bool true), (3, (.string ⟨#[48, 49, 50, 51, 52, 53, 54, 55, 56, 57, 48, 49, 50, 51, 52, 53, 54, 55, 56, 57, 48, 49, 50, 51, 52, 53, 54, 55, 56, 57, 48, 49]⟩))] #[.int .i64 0, .bool true, .string ⟨#[]⟩, .string ⟨#[48, 49, 50, 51, 52, 53, 54, 55, 56, 57, 48, 49, 50, 51, 52, 53, 54, 55, 56, 57, 48, 49, 50, 51, 52, 53, 54, 55, 56, 57, 48, 49]⟩] rfl e (by kernel_rfl) (hK _ w (Turn.refl _ _) (show G3 72 w (.agg #[.int .i64 0, .bool true, .string ⟨#[]⟩, .string ⟨#[48, 49, 50, 51, 52, 53, 54, 55, 56, 57, 48, 49, 50, 51, 52, 53, 54, 55, 56, 57, 48, 49, 50, 51, 52, 53, 54, 55, 56, 57, 48, 49]⟩]) from (rfl : (.agg #[.int .i64 0, .bool true, .string ⟨#[]⟩, .string ⟨#[48, 49, 50, 51, 52, 53, 54, 55, 56, 57, 48, 49, 50, 51, 52, 53, 54, 55, 56, 57, 48, 49, 50, 51, 52, 53, 54, 55, 56, 57, 48, 49]⟩] : Value) = (.agg #[.int .i64 0, .bool true, .string ⟨#[]⟩, .string ⟨#[48, 49, 50, 51, 52, 53, 54, 55, 56, 57, 48, 49, 50, 51, 52, 53, 54, 55, 56, 57, 48, 49, 50, 51, 52, 53, 54, 55, 56, 57, 48, 49]⟩] : Value))))
set_option maxRecDepth 20000 in
theorem r3_73 : R3 73 := by
  intro o ho p vs w hd K Q hK
  injection (show some _ = some o from ho) with ho
  subst ho
  have h69 : vs 69 = .agg #[.int .u8 3, .string ⟨#[48, 49, 50, 51, 52, 53, 54, 55, 56, 57, 48, 49, 50, 51, 52, 53, 54, 55, 56, 57, 48, 49, 50, 51]⟩, .string ⟨#[]⟩, .string ⟨#[]⟩, .bool false, .bool false, .slice none 0 0] := hd 69 (by kernel_rfl)
  have h72 : vs 72 = .agg #[.int .i64 0, .bool true, .string ⟨#[]⟩, .string ⟨#[48, 49, 50, 51, 52, 53, 54, 55, 56, 57, 48, 49, 50, 51, 52, 53, 54, 55, 56, 57, 48, 49, 50, 51, 52, 53, 54, 55, 56, 57, 48, 49]⟩] := hd 72 (by kernel_rfl)
  have e : ([(0, vs 69), (1, vs 72)] : List (Nat × Value)) = [(0, (.agg #[.int .u8 3, .string ⟨#[48, 49, 50, 51, 52, 53, 54, 55, 56, 57, 48, 49, 50, 51, 52, 53, 54, 55, 56, 57, 48, 49, 50, 51]⟩, .string ⟨#[]⟩, .string ⟨#[]⟩, .bool false, .bool false, .slice none 0 0])), (1, (.agg #[.int .i64 0, .bool true, .string ⟨#[]⟩, .string ⟨#[48, 49, 50, 51, 52, 53, 54, 55, 56, 57, 48, 49, 50, 51, 52, 53, 54, 55, 56, 57, 48, 49, 50, 51, 52, 53, 54, 55, 56, 57, 48, 49]⟩]))] := by rw [h69, h72]
  exact wp_built 52 _ [(0, (.agg #[.int .u8 3, .string ⟨#[48, 49, 50, 51, 52, 53, 54, 55, 56, 57, 48, 49, 50, 51, 52, 53, 54, 55, 56, 57, 48, 49, 50, 51]⟩, .string ⟨#[]⟩, .string ⟨#[]⟩, .bool false, .bool false, .slice none 0 0])), (1, (.agg #[.int .i64 0, .bool true, .string ⟨#[]⟩, .string ⟨#[48, 49, 50, 51, 52, 53, 54, 55, 56, 57, 48, 49, 50, 51, 52, 53, 54, 55, 56, 57, 48, 49, 50, 51, 52, 53, 54, 55, 56, 57, 48, 49]⟩]))] #[.int .u8 3, .string ⟨#[48, 49, 50, 51, 52, 53, 54, 55, 56, 57, 48, 49, 50, 51, 52, 53, 54, 55, 56, 57, 48, 49, 50, 51]⟩, .string ⟨#[]⟩, .string ⟨#[]⟩, .bool false, .bool false, .slice none 0 0, .int .i64 0, .bool true, .string ⟨#[]⟩, .string ⟨#[48, 49, 50, 51, 52, 53, 54, 55, 56, 57, 48, 49, 50, 51, 52, 53, 54, 55, 56, 57, 48, 49, 50, 51, 52, 53, 54, 55, 56, 57, 48, 49]⟩] rfl e (by kernel_rfl) (hK _ w (Turn.refl _ _) (show G3 73 w (.agg #[.int .u8 3, .string ⟨#[48, 49, 50, 51, 52, 53, 54, 55, 56, 57, 48, 49, 50, 51, 52, 53, 54, 55, 56, 57, 48, 49, 50, 51]⟩, .string ⟨#[]⟩, .string ⟨#[]⟩, .bool false, .bool false, .slice none 0 0, .int .i64 0, .bool true, .string ⟨#[]⟩, .string ⟨#[48, 49, 50, 51, 52, 53, 54, 55, 56, 57, 48, 49, 50, 51, 52, 53, 54, 55, 56, 57, 48, 49, 50, 51, 52, 53, 54, 55, 56, 57, 48, 49]⟩]) from (rfl : (.agg #[.int .u8 3, .string ⟨#[48, 49, 50, 51, 52, 53, 54, 55, 56, 57, 48, 49, 50, 51, 52, 53, 54, 55, 56, 57, 48, 49, 50, 51]⟩, .string ⟨#[]⟩, .string ⟨#[]⟩, .bool false, .bool false, .slice none 0 0, .int .i64 0, .bool true, .string ⟨#[]⟩, .string ⟨#[48, 49, 50, 51, 52, 53, 54, 55, 56, 57, 48, 49, 50, 51, 52, 53, 54, 55, 56, 57, 48, 49, 50, 51, 52, 53, 54, 55, 56, 57, 48, 49]⟩] : Value) = (.agg #[.int .u8 3, .string ⟨#[48, 49, 50, 51, 52, 53, 54, 55, 56, 57, 48, 49, 50, 51, 52, 53, 54, 55, 56, 57, 48, 49, 50, 51]⟩, .string ⟨#[]⟩, .string ⟨#[]⟩, .bool false, .bool false, .slice none 0 0, .int .i64 0, .bool true, .string ⟨#[]⟩, .string ⟨#[48, 49, 50, 51, 52, 53, 54, 55, 56, 57, 48, 49, 50, 51, 52, 53, 54, 55, 56, 57, 48, 49, 50, 51, 52, 53, 54, 55, 56, 57, 48, 49]⟩] : Value))))
set_option maxRecDepth 20000 in
theorem r3_74 : R3 74 := by
  intro o ho p vs w hd K Q hK
  injection (show some _ = some o from ho) with ho
  subst ho
  have h2 : vs 2 = .agg #[.int .u8 2, .string ⟨#[98]⟩, .string ⟨#[49]⟩, .string ⟨#[]⟩, .bool false, .bool false, .slice none 0 0, .int .i64 0, .bool false, .string ⟨#[]⟩, .string ⟨#[]⟩] := hd 2 (by kernel_rfl)
  have h5 : vs 5 = .agg #[.int .u8 2, .string ⟨#[98]⟩, .string ⟨#[50]⟩, .string ⟨#[]⟩, .bool false, .bool false, .slice none 0 0, .int .i64 0, .bool true, .string ⟨#[]⟩, .string ⟨#[49]⟩] := hd 5 (by kernel_rfl)
  have h8 : vs 8 = .agg #[.int .u8 1, .string ⟨#[98]⟩, .string ⟨#[]⟩, .string ⟨#[]⟩, .bool false, .bool false, .slice none 0 0, .int .i64 0, .bool true, .string ⟨#[]⟩, .string ⟨#[50]⟩] := hd 8 (by kernel_rfl)
  have h11 : vs 11 = .agg #[.int .u8 1, .string ⟨#[99]⟩, .string ⟨#[]⟩, .string ⟨#[]⟩, .bool false, .bool false, .slice none 0 0, .int .i64 0, .bool false, .string ⟨#[]⟩, .string ⟨#[]⟩] := hd 11 (by kernel_rfl)
  have h14 : vs 14 = .agg #[.int .u8 4, .string ⟨#[98]⟩, .string ⟨#[51]⟩, .string ⟨#[50]⟩, .bool true, .bool false, .slice none 0 0, .int .i64 0, .bool true, .string ⟨#[]⟩, .string ⟨#[50]⟩] := hd 14 (by kernel_rfl)
  have h17 : vs 17 = .agg #[.int .u8 4, .string ⟨#[98]⟩, .string ⟨#[52]⟩, .string ⟨#[50]⟩, .bool true, .bool false, .slice none 0 0, .int .i64 0, .bool false, .string ⟨#[]⟩, .string ⟨#[51]⟩] := hd 17 (by kernel_rfl)
  have h20 : vs 20 = .agg #[.int .u8 4, .string ⟨#[99]⟩, .string ⟨#[53]⟩, .string ⟨#[]⟩, .bool false, .bool false, .slice none 0 0, .int .i64 0, .bool true, .string ⟨#[]⟩, .string ⟨#[]⟩] := hd 20 (by kernel_rfl)
  have h23 : vs 23 = .agg #[.int .u8 4, .string ⟨#[99]⟩, .string ⟨#[54]⟩, .string ⟨#[]⟩, .bool false, .bool false, .slice none 0 0, .int .i64 0, .bool false, .string ⟨#[]⟩, .string ⟨#[53]⟩] := hd 23 (by kernel_rfl)
  have h26 : vs 26 = .agg #[.int .u8 5, .string ⟨#[97]⟩, .string ⟨#[]⟩, .string ⟨#[]⟩, .bool false, .bool false, .slice none 0 0, .int .i64 0, .bool true, .string ⟨#[98]⟩, .string ⟨#[51]⟩] := hd 26 (by kernel_rfl)
  have h29 : vs 29 = .agg #[.int .u8 5, .string ⟨#[98]⟩, .string ⟨#[]⟩, .string ⟨#[]⟩, .bool false, .bool true, .slice none 0 0, .int .i64 0, .bool true, .string ⟨#[99]⟩, .string ⟨#[53]⟩] := hd 29 (by kernel_rfl)
  have h32 : vs 32 = .agg #[.int .u8 5, .string ⟨#[99]⟩, .string ⟨#[]⟩, .string ⟨#[]⟩, .bool false, .bool true, .slice none 0 0, .int .i64 0, .bool false, .string ⟨#[]⟩, .string ⟨#[]⟩] := hd 32 (by kernel_rfl)
  obtain ⟨b39, h39, k39⟩ : ∃ b, vs 39 = .agg #[.int .u8 6, .string ⟨#[]⟩, .string ⟨#[]⟩, .string ⟨#[]⟩, .bool false, .bool false, .slice (some ⟨b, 0, none⟩) 3 3, .int .i64 0, .bool false, .string ⟨#[]⟩, .string ⟨#[]⟩] ∧ At w b (.cells (wcs kw3).toArray 46 (0, 0)) := hd 39 (by kernel_rfl)
  obtain ⟨b43, h43, k43⟩ : ∃ b, vs 43 = .agg #[.int .u8 6, .string ⟨#[]⟩, .string ⟨#[]⟩, .string ⟨#[]⟩, .bool false, .bool false, .slice (some ⟨b, 0, none⟩) 9 9, .int .i64 3, .bool false, .string ⟨#[]⟩, .string ⟨#[]⟩] ∧ At w b (.cells (wcs kw9).toArray 46 (0, 0)) := hd 43 (by kernel_rfl)
  have h46 : vs 46 = .agg #[.int .u8 9, .string ⟨#[]⟩, .string ⟨#[]⟩, .string ⟨#[]⟩, .bool false, .bool false, .slice none 0 0, .int .i64 20, .bool false, .string ⟨#[]⟩, .string ⟨#[]⟩] := hd 46 (by kernel_rfl)
  have h49 : vs 49 = .agg #[.int .u8 0, .string ⟨#[]⟩, .string ⟨#[]⟩, .string ⟨#[]⟩, .bool false, .bool false, .slice none 0 0, .int .i64 20, .bool false, .string ⟨#[]⟩, .string ⟨#[]⟩] := hd 49 (by kernel_rfl)
  have h56 : vs 56 = .agg #[.int .u8 2, .string ⟨#[48, 49, 50, 51, 52, 53, 54, 55, 56, 57, 48, 49, 50, 51, 52, 53, 54, 55, 56, 57, 48, 49, 50, 51]⟩, .string ⟨#[48, 49, 50, 51, 52, 53, 54, 55, 56, 57, 48, 49, 50, 51, 52, 53, 54, 55, 56, 57, 48, 49, 50, 51, 52, 53, 54, 55, 56, 57, 48, 49]⟩, .string ⟨#[]⟩, .bool false, .bool false, .slice none 0 0, .int .i64 0, .bool false, .string ⟨#[]⟩, .string ⟨#[]⟩] := hd 56 (by kernel_rfl)
  have h61 : vs 61 = .agg #[.int .u8 2, .string ⟨#[48, 49, 50, 51, 52, 53, 54, 55, 56, 57, 48, 49, 50, 51, 52, 53, 54, 55, 56, 57, 48, 49, 50, 51, 52]⟩, .string ⟨#[]⟩, .string ⟨#[]⟩, .bool false, .bool false, .slice none 0 0, .int .i64 7, .bool false, .string ⟨#[]⟩, .string ⟨#[]⟩] := hd 61 (by kernel_rfl)
  have h66 : vs 66 = .agg #[.int .u8 2, .string ⟨#[107]⟩, .string ⟨#[48, 49, 50, 51, 52, 53, 54, 55, 56, 57, 48, 49, 50, 51, 52, 53, 54, 55, 56, 57, 48, 49, 50, 51, 52, 53, 54, 55, 56, 57, 48, 49, 50]⟩, .string ⟨#[]⟩, .bool false, .bool false, .slice none 0 0, .int .i64 7, .bool false, .string ⟨#[]⟩, .string ⟨#[]⟩] := hd 66 (by kernel_rfl)
  have h73 : vs 73 = .agg #[.int .u8 3, .string ⟨#[48, 49, 50, 51, 52, 53, 54, 55, 56, 57, 48, 49, 50, 51, 52, 53, 54, 55, 56, 57, 48, 49, 50, 51]⟩, .string ⟨#[]⟩, .string ⟨#[]⟩, .bool false, .bool false, .slice none 0 0, .int .i64 0, .bool true, .string ⟨#[]⟩, .string ⟨#[48, 49, 50, 51, 52, 53, 54, 55, 56, 57, 48, 49, 50, 51, 52, 53, 54, 55, 56, 57, 48, 49, 50, 51, 52, 53, 54, 55, 56, 57, 48, 49]⟩] := hd 73 (by kernel_rfl)
  have e : ([(0, vs 2), (1, vs 5), (2, vs 8), (3, vs 11), (4, vs 14), (5, vs 17), (6, vs 20), (7, vs 23), (8, vs 26), (9, vs 29), (10, vs 32), (11, vs 39), (12, vs 43), (13, vs 46), (14, vs 49), (15, vs 56), (16, vs 61), (17, vs 66), (18, vs 73)] : List (Nat × Value)) = [(0, (.agg #[.int .u8 2, .string ⟨#[98]⟩, .string ⟨#[49]⟩, .string ⟨#[]⟩, .bool false, .bool false, .slice none 0 0, .int .i64 0, .bool false, .string ⟨#[]⟩, .string ⟨#[]⟩])), (1, (.agg #[.int .u8 2, .string ⟨#[98]⟩, .string ⟨#[50]⟩, .string ⟨#[]⟩, .bool false, .bool false, .slice none 0 0, .int .i64 0, .bool true, .string ⟨#[]⟩, .string ⟨#[49]⟩])), (2, (.agg #[.int .u8 1, .string ⟨#[98]⟩, .string ⟨#[]⟩, .string ⟨#[]⟩, .bool false, .bool false, .slice none 0 0, .int .i64 0, .bool true, .string ⟨#[]⟩, .string ⟨#[50]⟩])), (3, (.agg #[.int .u8 1, .string ⟨#[99]⟩, .string ⟨#[]⟩, .string ⟨#[]⟩, .bool false, .bool false, .slice none 0 0, .int .i64 0, .bool false, .string ⟨#[]⟩, .string ⟨#[]⟩])), (4, (.agg #[.int .u8 4, .string ⟨#[98]⟩, .string ⟨#[51]⟩, .string ⟨#[50]⟩, .bool true, .bool false, .slice none 0 0, .int .i64 0, .bool true, .string ⟨#[]⟩, .string ⟨#[50]⟩])), (5, (.agg #[.int .u8 4, .string ⟨#[98]⟩, .string ⟨#[52]⟩, .string ⟨#[50]⟩, .bool true, .bool false, .slice none 0 0, .int .i64 0, .bool false, .string ⟨#[]⟩, .string ⟨#[51]⟩])), (6, (.agg #[.int .u8 4, .string ⟨#[99]⟩, .string ⟨#[53]⟩, .string ⟨#[]⟩, .bool false, .bool false, .slice none 0 0, .int .i64 0, .bool true, .string ⟨#[]⟩, .string ⟨#[]⟩])), (7, (.agg #[.int .u8 4, .string ⟨#[99]⟩, .string ⟨#[54]⟩, .string ⟨#[]⟩, .bool false, .bool false, .slice none 0 0, .int .i64 0, .bool false, .string ⟨#[]⟩, .string ⟨#[53]⟩])), (8, (.agg #[.int .u8 5, .string ⟨#[97]⟩, .string ⟨#[]⟩, .string ⟨#[]⟩, .bool false, .bool false, .slice none 0 0, .int .i64 0, .bool true, .string ⟨#[98]⟩, .string ⟨#[51]⟩])), (9, (.agg #[.int .u8 5, .string ⟨#[98]⟩, .string ⟨#[]⟩, .string ⟨#[]⟩, .bool false, .bool true, .slice none 0 0, .int .i64 0, .bool true, .string ⟨#[99]⟩, .string ⟨#[53]⟩])), (10, (.agg #[.int .u8 5, .string ⟨#[99]⟩, .string ⟨#[]⟩, .string ⟨#[]⟩, .bool false, .bool true, .slice none 0 0, .int .i64 0, .bool false, .string ⟨#[]⟩, .string ⟨#[]⟩])), (11, (.agg #[.int .u8 6, .string ⟨#[]⟩, .string ⟨#[]⟩, .string ⟨#[]⟩, .bool false, .bool false, .slice (some ⟨b39, 0, none⟩) 3 3, .int .i64 0, .bool false, .string ⟨#[]⟩, .string ⟨#[]⟩])), (12, (.agg #[.int .u8 6, .string ⟨#[]⟩, .string ⟨#[]⟩, .string ⟨#[]⟩, .bool false, .bool false, .slice (some ⟨b43, 0, none⟩) 9 9, .int .i64 3, .bool false, .string ⟨#[]⟩, .string ⟨#[]⟩])), (13, (.agg #[.int .u8 9, .string ⟨#[]⟩, .string ⟨#[]⟩, .string ⟨#[]⟩, .bool false, .bool false, .slice none 0 0, .int .i64 20, .bool false, .string ⟨#[]⟩, .string ⟨#[]⟩])), (14, (.agg #[.int .u8 0, .string ⟨#[]⟩, .string ⟨#[]⟩, .string ⟨#[]⟩, .bool false, .bool false, .slice none 0 0, .int .i64 20, .bool false, .string ⟨#[]⟩, .string ⟨#[]⟩])), (15, (.agg #[.int .u8 2, .string ⟨#[48, 49, 50, 51, 52, 53, 54, 55, 56, 57, 48, 49, 50, 51, 52, 53, 54, 55, 56, 57, 48, 49, 50, 51]⟩, .string ⟨#[48, 49, 50, 51, 52, 53, 54, 55, 56, 57, 48, 49, 50, 51, 52, 53, 54, 55, 56, 57, 48, 49, 50, 51, 52, 53, 54, 55, 56, 57, 48, 49]⟩, .string ⟨#[]⟩, .bool false, .bool false, .slice none 0 0, .int .i64 0, .bool false, .string ⟨#[]⟩, .string ⟨#[]⟩])), (16, (.agg #[.int .u8 2, .string ⟨#[48, 49, 50, 51, 52, 53, 54, 55, 56, 57, 48, 49, 50, 51, 52, 53, 54, 55, 56, 57, 48, 49, 50, 51, 52]⟩, .string ⟨#[]⟩, .string ⟨#[]⟩, .bool false, .bool false, .slice none 0 0, .int .i64 7, .bool false, .string ⟨#[]⟩, .string ⟨#[]⟩])), (17, (.agg #[.int .u8 2, .string ⟨#[107]⟩, .string ⟨#[48, 49, 50, 51, 52, 53, 54, 55, 56, 57, 48, 49, 50, 51, 52, 53, 54, 55, 56, 57, 48, 49, 50, 51, 52, 53, 54, 55, 56, 57, 48, 49, 50]⟩, .string ⟨#[]⟩, .bool false, .bool false, .slice none 0 0, .int .i64 7, .bool false, .string ⟨#[]⟩, .string ⟨#[]⟩])), (18, (.agg #[.int .u8 3, .string ⟨#[48, 49, 50, 51, 52, 53, 54, 55, 56, 57, 48, 49, 50, 51, 52, 53, 54, 55, 56, 57, 48, 49, 50, 51]⟩, .string ⟨#[]⟩, .string ⟨#[]⟩, .bool false, .bool false, .slice none 0 0, .int .i64 0, .bool true, .string ⟨#[]⟩, .string ⟨#[48, 49, 50, 51, 52, 53, 54, 55, 56, 57, 48, 49, 50, 51, 52, 53, 54, 55, 56, 57, 48, 49, 50, 51, 52, 53, 54, 55, 56, 57, 48, 49]⟩]))] := by rw [h2, h5, h8, h11, h14, h17, h20, h23, h26, h29, h32, h39, h43, h46, h49, h56, h61, h66, h73]
  exact wp_bs 53 52 19 11 _ [(0, (.agg #[.int .u8 2, .string ⟨#[98]⟩, .string ⟨#[49]⟩, .string ⟨#[]⟩, .bool false, .bool false, .slice none 0 0, .int .i64 0, .bool false, .string ⟨#[]⟩, .string ⟨#[]⟩])), (1, (.agg #[.int .u8 2, .string ⟨#[98]⟩, .string ⟨#[50]⟩, .string ⟨#[]⟩, .bool false, .bool false, .slice none 0 0, .int .i64 0, .bool true, .string ⟨#[]⟩, .string ⟨#[49]⟩])), (2, (.agg #[.int .u8 1, .string ⟨#[98]⟩, .string ⟨#[]⟩, .string ⟨#[]⟩, .bool false, .bool false, .slice none 0 0, .int .i64 0, .bool true, .string ⟨#[]⟩, .string ⟨#[50]⟩])), (3, (.agg #[.int .u8 1, .string ⟨#[99]⟩, .string ⟨#[]⟩, .string ⟨#[]⟩, .bool false, .bool false, .slice none 0 0, .int .i64 0, .bool false, .string ⟨#[]⟩, .string ⟨#[]⟩])), (4, (.agg #[.int .u8 4, .string ⟨#[98]⟩, .string ⟨#[51]⟩, .string ⟨#[50]⟩, .bool true, .bool false, .slice none 0 0, .int .i64 0, .bool true, .string ⟨#[]⟩, .string ⟨#[50]⟩])), (5, (.agg #[.int .u8 4, .string ⟨#[98]⟩, .string ⟨#[52]⟩, .string ⟨#[50]⟩, .bool true, .bool false, .slice none 0 0, .int .i64 0, .bool false, .string ⟨#[]⟩, .string ⟨#[51]⟩])), (6, (.agg #[.int .u8 4, .string ⟨#[99]⟩, .string ⟨#[53]⟩, .string ⟨#[]⟩, .bool false, .bool false, .slice none 0 0, .int .i64 0, .bool true, .string ⟨#[]⟩, .string ⟨#[]⟩])), (7, (.agg #[.int .u8 4, .string ⟨#[99]⟩, .string ⟨#[54]⟩, .string ⟨#[]⟩, .bool false, .bool false, .slice none 0 0, .int .i64 0, .bool false, .string ⟨#[]⟩, .string ⟨#[53]⟩])), (8, (.agg #[.int .u8 5, .string ⟨#[97]⟩, .string ⟨#[]⟩, .string ⟨#[]⟩, .bool false, .bool false, .slice none 0 0, .int .i64 0, .bool true, .string ⟨#[98]⟩, .string ⟨#[51]⟩])), (9, (.agg #[.int .u8 5, .string ⟨#[98]⟩, .string ⟨#[]⟩, .string ⟨#[]⟩, .bool false, .bool true, .slice none 0 0, .int .i64 0, .bool true, .string ⟨#[99]⟩, .string ⟨#[53]⟩])), (10, (.agg #[.int .u8 5, .string ⟨#[99]⟩, .string ⟨#[]⟩, .string ⟨#[]⟩, .bool false, .bool true, .slice none 0 0, .int .i64 0, .bool false, .string ⟨#[]⟩, .string ⟨#[]⟩])), (11, (.agg #[.int .u8 6, .string ⟨#[]⟩, .string ⟨#[]⟩, .string ⟨#[]⟩, .bool false, .bool false, .slice (some ⟨b39, 0, none⟩) 3 3, .int .i64 0, .bool false, .string ⟨#[]⟩, .string ⟨#[]⟩])), (12, (.agg #[.int .u8 6, .string ⟨#[]⟩, .string ⟨#[]⟩, .string ⟨#[]⟩, .bool false, .bool false, .slice (some ⟨b43, 0, none⟩) 9 9, .int .i64 3, .bool false, .string ⟨#[]⟩, .string ⟨#[]⟩])), (13, (.agg #[.int .u8 9, .string ⟨#[]⟩, .string ⟨#[]⟩, .string ⟨#[]⟩, .bool false, .bool false, .slice none 0 0, .int .i64 20, .bool false, .string ⟨#[]⟩, .string ⟨#[]⟩])), (14, (.agg #[.int .u8 0, .string ⟨#[]⟩, .string ⟨#[]⟩, .string ⟨#[]⟩, .bool false, .bool false, .slice none 0 0, .int .i64 20, .bool false, .string ⟨#[]⟩, .string ⟨#[]⟩])), (15, (.agg #[.int .u8 2, .string ⟨#[48, 49, 50, 51, 52, 53, 54, 55, 56, 57, 48, 49, 50, 51, 52, 53, 54, 55, 56, 57, 48, 49, 50, 51]⟩, .string ⟨#[48, 49, 50, 51, 52, 53, 54, 55, 56, 57, 48, 49, 50, 51, 52, 53, 54, 55, 56, 57, 48, 49, 50, 51, 52, 53, 54, 55, 56, 57, 48, 49]⟩, .string ⟨#[]⟩, .bool false, .bool false, .slice none 0 0, .int .i64 0, .bool false, .string ⟨#[]⟩, .string ⟨#[]⟩])), (16, (.agg #[.int .u8 2, .string ⟨#[48, 49, 50, 51, 52, 53, 54, 55, 56, 57, 48, 49, 50, 51, 52, 53, 54, 55, 56, 57, 48, 49, 50, 51, 52]⟩, .string ⟨#[]⟩, .string ⟨#[]⟩, .bool false, .bool false, .slice none 0 0, .int .i64 7, .bool false, .string ⟨#[]⟩, .string ⟨#[]⟩])), (17, (.agg #[.int .u8 2, .string ⟨#[107]⟩, .string ⟨#[48, 49, 50, 51, 52, 53, 54, 55, 56, 57, 48, 49, 50, 51, 52, 53, 54, 55, 56, 57, 48, 49, 50, 51, 52, 53, 54, 55, 56, 57, 48, 49, 50]⟩, .string ⟨#[]⟩, .bool false, .bool false, .slice none 0 0, .int .i64 7, .bool false, .string ⟨#[]⟩, .string ⟨#[]⟩])), (18, (.agg #[.int .u8 3, .string ⟨#[48, 49, 50, 51, 52, 53, 54, 55, 56, 57, 48, 49, 50, 51, 52, 53, 54, 55, 56, 57, 48, 49, 50, 51]⟩, .string ⟨#[]⟩, .string ⟨#[]⟩, .bool false, .bool false, .slice none 0 0, .int .i64 0, .bool true, .string ⟨#[]⟩, .string ⟨#[48, 49, 50, 51, 52, 53, 54, 55, 56, 57, 48, 49, 50, 51, 52, 53, 54, 55, 56, 57, 48, 49, 50, 51, 52, 53, 54, 55, 56, 57, 48, 49]⟩]))] #[.int .u8 0, .string ⟨#[]⟩, .string ⟨#[]⟩, .string ⟨#[]⟩, .bool false, .bool false, .slice none 0 0, .int .i64 0, .bool false, .string ⟨#[]⟩, .string ⟨#[]⟩] (kcs (krs b39 b43)).toArray rfl Try.underlying53 (by kernel_rfl) (by kernel_rfl) (by decide) (by decide) e (by kernel_rfl) (hK _ _ ((Turn.refl _ _).alloc _) ⟨b39, b43, w.heap.size, rfl, k39.no ((Turn.refl _ _).alloc _), k43.no ((Turn.refl _ _).alloc _), At.new _ _⟩)
set_option maxRecDepth 20000 in
theorem r3_75 : R3 75 := by
  intro o ho p vs w hd K Q hK
  injection (show some _ = some o from ho) with ho
  subst ho
  obtain ⟨wb, zb, rb, h74, k1, k2, k3⟩ : ∃ wb zb rb, vs 74 = .slice (some ⟨rb, 0, none⟩) 19 19 ∧ At w wb (.cells (wcs kw3).toArray 46 (0, 0)) ∧ At w zb (.cells (wcs kw9).toArray 46 (0, 0)) ∧ At w rb (.cells (kcs (krs wb zb)).toArray 52 (0, 0)) := hd 74 (by kernel_rfl)
  have e := hK (vs 74) w (Turn.refl _ _) (show G3 75 w (vs 74) from ⟨wb, zb, rb, h74, k1, k2, k3⟩)
  exact wp_mv _ (.inr rfl) rfl e
theorem all3 : AllN R3 76 := ⟨⟨⟨⟨⟨⟨⟨⟨⟨⟨⟨⟨⟨⟨⟨⟨⟨⟨⟨⟨⟨⟨⟨⟨⟨⟨⟨⟨⟨⟨⟨⟨⟨⟨⟨⟨⟨⟨⟨⟨⟨⟨⟨⟨⟨⟨⟨⟨⟨⟨⟨⟨⟨⟨⟨⟨⟨⟨⟨⟨⟨⟨⟨⟨⟨⟨⟨⟨⟨⟨⟨⟨⟨⟨⟨⟨trivial, r3_0⟩, r3_1⟩, r3_2⟩, r3_3⟩, r3_4⟩, r3_5⟩, r3_6⟩, r3_7⟩, r3_8⟩, r3_9⟩, r3_10⟩, r3_11⟩, r3_12⟩, r3_13⟩, r3_14⟩, r3_15⟩, r3_16⟩, r3_17⟩, r3_18⟩, r3_19⟩, r3_20⟩, r3_21⟩, r3_22⟩, r3_23⟩, r3_24⟩, r3_25⟩, r3_26⟩, r3_27⟩, r3_28⟩, r3_29⟩, r3_30⟩, r3_31⟩, r3_32⟩, r3_33⟩, r3_34⟩, r3_35⟩, r3_36⟩, r3_37⟩, r3_38⟩, r3_39⟩, r3_40⟩, r3_41⟩, r3_42⟩, r3_43⟩, r3_44⟩, r3_45⟩, r3_46⟩, r3_47⟩, r3_48⟩, r3_49⟩, r3_50⟩, r3_51⟩, r3_52⟩, r3_53⟩, r3_54⟩, r3_55⟩, r3_56⟩, r3_57⟩, r3_58⟩, r3_59⟩, r3_60⟩, r3_61⟩, r3_62⟩, r3_63⟩, r3_64⟩, r3_65⟩, r3_66⟩, r3_67⟩, r3_68⟩, r3_69⟩, r3_70⟩, r3_71⟩, r3_72⟩, r3_73⟩, r3_74⟩, r3_75⟩
end Go.Proofs.Ytjjmooegpoeomaa
