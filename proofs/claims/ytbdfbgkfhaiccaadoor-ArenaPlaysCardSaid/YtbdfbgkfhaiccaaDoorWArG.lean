/-
  Get of an arena with its places told; what becomes of the arena where a thing is written in its place.
-/
import Derived.Test.YtbdfbgkfhaiccaaDoorWArFS
import Derived.Test.YtbdfbgkfhaiccaaDoorWArFT
namespace Go.Proofs.YtbdfbgkfhaiccaaDoor
open Go.RowKit Go.Maps
set_option linter.unusedVariables false
section
variable {tA tP : TypeId} {w w' : World} {ab mb n : Nat} {pp : Value} {M : Nat → Option (Nat × Value)} {f : Int → Option Value}
theorem ArF.place (h : ArF tA tP w ab mb pp M n f) {x g : Nat} {v : Value} (hM : M x = some (g, v)) : ∃ q, f (x : Int) = some (.pointer (some ⟨q, 0, none⟩)) ∧ At w q (.cells #[.int .u64 (g : Int), v] tP (0, 0)) := by
  have := h.2.2.2.1 x
  rw [hM] at this
  exact this
/-- A thing is written where it stands. -/
theorem ArF.wrote (h : ArF tA tP w ab mb pp M n f) {x g q : Nat} {v u : Value} (hA : tA ≠ tP) (hM : M x = some (g, v)) (hf : f (x : Int) = some (.pointer (some ⟨q, 0, none⟩))) (hq : At w q (.cells #[.int .u64 (g : Int), v] tP (0, 0)))
    (t : Turn (· = q) w w') (hq' : At w' q (.cells #[.int .u64 (g : Int), u] tP (0, 0))) : ArF tA tP w' ab mb pp (updM M x (some (g, u))) n f := by
  have hab : ¬ ab = q := h.1.ne hq (by intro e; injection e with _ e; exact hA e)
  have hmb : ¬ mb = q := h.2.1.ne hq
  refine ⟨h.1.turn t hab, h.2.1.turn t hmb, h.2.2.1, ?_, h.2.2.2.2⟩
  intro y
  unfold updM
  by_cases hy : y = x
  · subst hy
    rw [if_pos rfl]
    exact ⟨q, hf, hq'⟩
  · rw [if_neg hy]
    have h0 := h.2.2.2.1 y
    cases hMy : M y with
    | none => rw [hMy] at h0; exact h0
    | some gv =>
      obtain ⟨g2, v2⟩ := gv
      rw [hMy] at h0
      obtain ⟨q2, h1, h2⟩ := h0
      refine ⟨q2, h1, h2.turn t (fun e => ?_)⟩
      subst e
      have := h.2.2.2.2 _ _ _ h1 hf
      omega
/-- What another arena's place turns. -/
theorem ArF.apart (h : ArF tA tP w ab mb pp M n f) {q : Nat} {c : Array Value} (hA : tA ≠ tP) (hq : At w q (.cells c tP (0, 0))) (hf : ∀ i, f i ≠ some (.pointer (some ⟨q, 0, none⟩))) (t : Turn (· = q) w w') : ArF tA tP w' ab mb pp M n f := by
  have hab : ¬ ab = q := h.1.ne hq (by intro e; injection e with _ e; exact hA e)
  have hmb : ¬ mb = q := h.2.1.ne hq
  refine ⟨h.1.turn t hab, h.2.1.turn t hmb, h.2.2.1, ?_, h.2.2.2.2⟩
  intro y
  have h0 := h.2.2.2.1 y
  cases hMy : M y with
  | none => rw [hMy] at h0; exact h0
  | some gv =>
    obtain ⟨g2, v2⟩ := gv
    rw [hMy] at h0
    obtain ⟨q2, h1, h2⟩ := h0
    refine ⟨q2, h1, h2.turn t (fun e => ?_)⟩
    subst e
    exact hf _ h1
end

theorem getS_F {w : World} {ab mb n : Nat} {pp : Value} {M : Nat → Option (Nat × Value)} {f : Int → Option Value} (h : ArF 89 97 w ab mb pp M n f) (x g q : Nat) (v : Value) (hx : x < 9223372036854775808) (hf : f (x : Int) = some (.pointer (some ⟨q, 0, none⟩))) (hq : At w q (.cells #[.int .u64 (g : Int), v] 97 (0, 0))) :
    Calls Tryd.prog 15 #[.pointer (some ⟨ab, 0, none⟩), .agg #[.int .i64 (x : Int), .int .u64 (g : Int)]] w fun e w' => e = .returned (.tuple #[.pointer (some ⟨q, 1, none⟩), .bool true]) ∧ Turn (fun _ => False) w w' := by
  have := getS_some_w ab mb q x g g w (h.1.cell 1) h.1.lt hq.lt (hq.cell 0) (fun k => by rw [lookS h _ (wf64 (by omega) (by omega)), hf]; rfl)
  rw [if_pos rfl] at this
  exact this

theorem getT_F {w : World} {ab mb n : Nat} {pp : Value} {M : Nat → Option (Nat × Value)} {f : Int → Option Value} (h : ArF 113 134 w ab mb pp M n f) (x g q : Nat) (v : Value) (hx : x < 9223372036854775808) (hf : f (x : Int) = some (.pointer (some ⟨q, 0, none⟩))) (hq : At w q (.cells #[.int .u64 (g : Int), v] 134 (0, 0))) :
    Calls Tryd.prog 59 #[.pointer (some ⟨ab, 0, none⟩), .agg #[.int .i64 (x : Int), .int .u64 (g : Int)]] w fun e w' => e = .returned (.tuple #[.pointer (some ⟨q, 1, none⟩), .bool true]) ∧ Turn (fun _ => False) w w' := by
  have := getT_some_w ab mb q x g g w (h.1.cell 1) h.1.lt hq.lt (hq.cell 0) (fun k => by rw [lookT h _ (wf64 (by omega) (by omega)), hf]; rfl)
  rw [if_pos rfl] at this
  exact this
end Go.Proofs.YtbdfbgkfhaiccaaDoor
