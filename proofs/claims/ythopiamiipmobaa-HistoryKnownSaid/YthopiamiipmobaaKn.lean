/-
  What is known of an Id, as plain data; right rows.
-/
import Derived.Test.YthopiamiipmobaaEvs
namespace Go.Proofs.Ythopiamiipmobaa
open Go.RowKit Go.Lib
set_option linter.unusedVariables false

instance : DecidableEq Ans := fun a b => decidable_of_iff (a.code = b.code ∧ a.found = b.found ∧ a.k = b.k ∧ a.v = b.v) (by cases a; cases b; simp)
def ans00 : Ans := ⟨0, false, ⟨#[]⟩, ⟨#[]⟩⟩
structure Kn where
  last : Int
  an : Ans
def kn0 : Kn := ⟨0, ans00⟩
def Kn.val (k : Kn) : Value := .agg #[.int .u8 k.last, .int .i64 k.an.code, .bool k.an.found, .string k.an.k, .string k.an.v]
def upd (m : Int → Kn) (e : Ev) : Int → Kn := fun i => if i = e.id then ⟨e.kind, e.an⟩ else m i
def kn (l : List Ev) : Int → Kn := l.foldl upd fun _ => kn0
theorem kn_nil (i : Int) : kn [] i = kn0 := rfl
theorem kn_snoc (l : List Ev) (e : Ev) : kn (l ++ [e]) = upd (kn l) e := by unfold kn; rw [List.foldl_append]; rfl

/-- Is an operation none? -/
def zeroB (kind : Int) (k v o : ByteArray) (had aft : Bool) (len : Nat) : Bool :=
  kind == 0 && (k.toList.isEmpty && (v.toList.isEmpty && (o.toList.isEmpty && (!had && (!aft && ((len : Int) == 0))))))
def Opx.zero (o : Opx) : Bool := zeroB o.kind o.k o.v o.o o.had o.aft o.len

/-- May an event stand behind a right row of which k is known of its Id? -/
def fitsK (k : Kn) (e : Ev) : Bool :=
  if e.id < 1 then false else if e.kind ≠ k.last + 1 then false else
  if e.kind = 1 then decide (e.an = ans00) else if e.kind = 2 then e.op.zero else if e.kind = 3 then e.op.zero && decide (e.an = k.an) else false
def fits (l : List Ev) (e : Ev) : Bool := fitsK (kn l e.id) e
/-- Each event fits behind those ahead of it. -/
inductive Right : List Ev → Prop
  | nil : Right []
  | snoc {l : List Ev} {e : Ev} : Right l → fits l e = true → Right (l ++ [e])
theorem fits_kind {l : List Ev} {e : Ev} (h : fits l e = true) : 1 ≤ e.id ∧ e.kind = (kn l e.id).last + 1 ∧ 1 ≤ e.kind ∧ e.kind ≤ 3 := by
  unfold fits fitsK at h
  split at h
  · cases h
  split at h
  · cases h
  rename_i h1 h2
  have h3 : e.kind = (kn l e.id).last + 1 := by
    by_cases h : e.kind = (kn l e.id).last + 1
    · exact h
    · exact absurd h h2
  refine ⟨by omega, h3, ?_⟩
  split at h
  · omega
  split at h
  · omega
  split at h
  · omega
  · cases h
theorem Right.last {l : List Ev} (h : Right l) : ∀ i, 0 ≤ (kn l i).last ∧ (kn l i).last ≤ 3 := by
  induction h with
  | nil => intro i; exact ⟨Int.le_refl 0, by show (0 : Int) ≤ 3; decide⟩
  | snoc hl hf ih =>
    intro i
    rw [kn_snoc]
    unfold upd
    split
    · obtain ⟨_, _, h1, h2⟩ := fits_kind hf
      exact ⟨by show (0 : Int) ≤ Ev.kind _; omega, h2⟩
    · exact ih i
/-- What stands in the map. -/
def kmap (l : List Ev) (i : Int) : Option Value := if (kn l i).last = 0 then none else some (kn l i).val
theorem kmap_snoc {l : List Ev} {e : Ev} (h : fits l e = true) (i : Int) : kmap (l ++ [e]) i = if i = e.id then some (Kn.val ⟨e.kind, e.an⟩) else kmap l i := by
  unfold kmap
  rw [kn_snoc]
  unfold upd
  split
  · obtain ⟨_, _, h1, h2⟩ := fits_kind h
    rw [if_neg (by show ¬ e.kind = 0; omega)]
  · rfl
theorem Right.known {l : List Ev} (h : Right l) : ∀ i, (kn l i).last = 0 → kn l i = kn0 := by
  induction h with
  | nil => intro i _; rfl
  | snoc hl hf ih =>
    intro i h0
    rw [kn_snoc] at h0 ⊢
    unfold upd at h0 ⊢
    split
    · rename_i hi
      rw [if_pos hi] at h0
      obtain ⟨_, _, h1, h2⟩ := fits_kind hf
      replace h0 : Ev.kind _ = 0 := h0
      omega
    · rename_i hi
      rw [if_neg hi] at h0
      exact ih i h0
theorem kmap_getD {l : List Ev} (h : Right l) (i : Int) : (kmap l i).getD kn0.val = (kn l i).val := by
  unfold kmap
  split
  · rename_i h0
    rw [h.known i h0]
    rfl
  · rfl
end Go.Proofs.Ythopiamiipmobaa
