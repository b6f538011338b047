/-
  HistoryKnown: its first row; what is known of it.
-/
import Derived.Test.YthopiamiipmobaaWMarks
import Derived.Test.YthopiamiipmobaaWState
import Derived.Test.YthopiamiipmobaaWWakes
import Derived.Test.YthopiamiipmobaaAnyInv
import Derived.Below
namespace Go.Proofs.Ythopiamiipmobaa
open Go.RowKit Go.Lib
set_option linter.unusedVariables false
set_option linter.unusedSimpArgs false

def an1 : Ans := ⟨0, true, ⟨#[]⟩, ⟨#[49]⟩⟩
theorem an1_fit : an1.fit := ⟨fit0, by unfold Fit an1; decide⟩
def ke1 : Ev := ⟨1, 1, opk, ans00⟩
def ke2 : Ev := ⟨2, 1, op00, an1⟩
def ke3 : Ev := ⟨1, 2, op00, ans00⟩
def ke4 : Ev := ⟨3, 1, op00, an1⟩
def ke5 : Ev := ⟨2, 2, op00, ans00⟩
def KL : List Ev := [ke1, ke2, ke3, ke4, ke5]
theorem in2 : In64 2 := ⟨by decide, by decide⟩
theorem KL_cells : (ecs KL).toArray = #[.int .u8 1, .int .i64 1, .int .u8 1, .string ⟨#[107]⟩, .string ⟨#[]⟩, .string ⟨#[]⟩, .bool false, .bool false, .slice none 0 0, .int .i64 0, .bool false, .string ⟨#[]⟩, .string ⟨#[]⟩, .int .u8 2, .int .i64 1, .int .u8 0, .string ⟨#[]⟩, .string ⟨#[]⟩, .string ⟨#[]⟩, .bool false, .bool false, .slice none 0 0, .int .i64 0, .bool true, .string ⟨#[]⟩, .string ⟨#[49]⟩, .int .u8 1, .int .i64 2, .int .u8 0, .string ⟨#[]⟩, .string ⟨#[]⟩, .string ⟨#[]⟩, .bool false, .bool false, .slice none 0 0, .int .i64 0, .bool false, .string ⟨#[]⟩, .string ⟨#[]⟩, .int .u8 3, .int .i64 1, .int .u8 0, .string ⟨#[]⟩, .string ⟨#[]⟩, .string ⟨#[]⟩, .bool false, .bool false, .slice none 0 0, .int .i64 0, .bool true, .string ⟨#[]⟩, .string ⟨#[49]⟩, .int .u8 2, .int .i64 2, .int .u8 0, .string ⟨#[]⟩, .string ⟨#[]⟩, .string ⟨#[]⟩, .bool false, .bool false, .slice none 0 0, .int .i64 0, .bool false, .string ⟨#[]⟩, .string ⟨#[]⟩] := rfl
theorem kfit1 : ke1.fit [] := .mk' in1 opk_fit ans00_fit
theorem kfit2 : ke2.fit [] := .mk' in1 op00_fit an1_fit
theorem kfit3 : ke3.fit [] := .mk' in2 op00_fit ans00_fit
theorem kfit4 : ke4.fit [] := .mk' in1 op00_fit an1_fit
theorem kfit5 : ke5.fit [] := .mk' in2 op00_fit ans00_fit
theorem KL_fit : ∀ e ∈ KL, e.fit [] ∧ e.op.A = none := by
  intro e he
  simp only [KL, List.mem_cons, List.not_mem_nil, or_false] at he
  rcases he with rfl | rfl | rfl | rfl | rfl
  · exact ⟨kfit1, rfl⟩
  · exact ⟨kfit2, rfl⟩
  · exact ⟨kfit3, rfl⟩
  · exact ⟨kfit4, rfl⟩
  · exact ⟨kfit5, rfl⟩
/-- A row that is a literal, in a block of its own. -/
theorem row_of_at {w : World} {g : Nat} {xs : List Value} {t : TypeId} {f : Nat × Nat} (h : At w g (.cells xs.toArray t f)) : Row w (some ⟨g, 0, none⟩) xs := fun j u hj => by
  refine ⟨g, 0, rfl, h.lt, ?_⟩
  rw [Nat.zero_add, h.cell]
  simpa using hj
theorem rws_none {w : World} {l : List Ev} (h : ∀ e ∈ l, e.fit [] ∧ e.op.A = none) : Rws w l (l.map fun _ => []) :=
  ⟨by simp, fun j e ws he hw => by
    simp only [List.getElem?_map, he, Option.map_some, Option.some.injEq] at hw
    subst hw
    exact ⟨Row.nil _ _, (h e (List.mem_of_getElem? he)).1⟩⟩
theorem kn_c1 : kn [ke1] 1 = ⟨1, ans00⟩ := rfl
theorem kn_c2 : kn [ke1, ke2] 2 = ⟨0, ans00⟩ := rfl
theorem kn_c3 : kn [ke1, ke2, ke3] 1 = ⟨2, an1⟩ := rfl
theorem kn_c4 : kn [ke1, ke2, ke3, ke4] 2 = ⟨1, ans00⟩ := rfl
theorem f_1 : fits [] ke1 = true := by simp [fits, fitsK, ke1, kn, kn0]
theorem f_2 : fits [ke1] ke2 = true := by
  unfold fits; rw [show ke2.id = 1 from rfl, kn_c1]; simp [fitsK, ke2, zero00]
theorem f_3 : fits [ke1, ke2] ke3 = true := by
  unfold fits; rw [show ke3.id = 2 from rfl, kn_c2]; simp [fitsK, ke3]
theorem f_4 : fits [ke1, ke2, ke3] ke4 = true := by
  unfold fits; rw [show ke4.id = 1 from rfl, kn_c3]; simp [fitsK, ke4, zero00]
theorem f_5 : fits [ke1, ke2, ke3, ke4] ke5 = true := by
  unfold fits; rw [show ke5.id = 2 from rfl, kn_c4]; simp [fitsK, ke5, zero00]
theorem KL_right : Right KL := .snoc (l := [ke1, ke2, ke3, ke4]) (.snoc (l := [ke1, ke2, ke3]) (.snoc (l := [ke1, ke2]) (.snoc (l := [ke1]) (.snoc (l := []) .nil f_1) f_2) f_3) f_4) f_5
theorem KL_marks : marks KL = [1, 2] := by simp [marks, KL, ke1, ke2, ke3, ke4, ke5]
theorem KL_1 : firstAt 1 1 KL = some 0 := rfl
theorem KL_2 : firstAt 2 1 KL = some 1 := rfl
theorem KL_3 : firstAt 3 1 KL = some 3 := rfl
theorem KL_n : stN KL 1 = 3 := by simp [stN, KL_1, KL_2, KL_3]
theorem KL_a : stA KL 1 = an1 := by unfold stA; rw [KL_2]; rfl
theorem KL_o : stO KL 1 = opk := by unfold stO; rw [KL_1]; rfl
theorem KL_ahead : ahead KL 1 2 = false := rfl
theorem KL_n3 : stN KL 3 = 0 := by
  have : firstAt 1 3 KL = none := rfl
  simp [stN, this]
end Go.Proofs.Ythopiamiipmobaa
