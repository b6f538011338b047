/-
  HistoryKnown: where each of its rows is not right.
-/
import Derived.Test.YthopiamiipmobaaRg8
import Derived.Test.YthopiamiipmobaaWAhead
namespace Go.Proofs.Ythopiamiipmobaa
open Go.RowKit Go.Lib
set_option linter.unusedVariables false
set_option linter.unusedSimpArgs false

theorem kz_kn1 : kn [kz 1 1] 1 = ⟨1, ans00⟩ := rfl
theorem kz_f1 : fits [] (kz 1 1) = true := by simp [fits, fitsK, kz, kn, kn0]
theorem kz_r1 : Right [kz 1 1] := .snoc (l := []) .nil kz_f1
theorem bad0 : Bad kr0 1 := ⟨kz_r1, kz 3 1, rfl, by
  show fits [kz 1 1] (kz 3 1) = false
  unfold fits; rw [show (kz 3 1).id = 1 from rfl, kz_kn1]; simp [fitsK, kz]⟩
theorem bad1 : Bad kr1 0 := ⟨.nil, kz 2 1, rfl, by simp [kr1, fits, fitsK, kz, kn, kn0]⟩
theorem bad2 : Bad kr2 1 := ⟨kz_r1, kz 1 1, rfl, by
  show fits [kz 1 1] (kz 1 1) = false
  unfold fits; rw [show (kz 1 1).id = 1 from rfl, kz_kn1]; simp [fitsK, kz]⟩
theorem bad3 : Bad kr3 0 := ⟨.nil, kz 1 0, rfl, by simp [kr3, fits, fitsK, kz, kn, kn0]⟩
theorem bad4 : Bad kr4 0 := ⟨.nil, kz 0 1, rfl, by simp [kr4, fits, fitsK, kz, kn, kn0]⟩
theorem an1_ne : ¬ an1 = ans00 := fun e => by
  have := congrArg Ans.found e
  cases this
theorem bad5 : Bad kr5 0 := ⟨.nil, ⟨1, 1, op00, an1⟩, rfl, by simp [kr5, fits, fitsK, kn, kn0, an1_ne]⟩
theorem bad6 : Bad kr6 1 := ⟨kz_r1, ⟨2, 1, opk, ans00⟩, rfl, by
  show fits [kz 1 1] ⟨2, 1, opk, ans00⟩ = false
  unfold fits; rw [show (⟨2, 1, opk, ans00⟩ : Ev).id = 1 from rfl, kz_kn1]
  have : opk.zero = false := by simp [Opx.zero, zeroB, opk]
  simp [fitsK, this]⟩
theorem bad7 : Bad kr7 2 := ⟨.snoc (l := [ke1]) (.snoc (l := []) .nil f_1) f_2, kz 3 1, rfl, by
  show fits [ke1, ke2] (kz 3 1) = false
  unfold fits; rw [show (kz 3 1).id = 1 from rfl, show kn [ke1, ke2] 1 = ⟨2, an1⟩ from rfl]
  have h : ¬ ans00 = an1 := fun e => an1_ne e.symm
  simp [fitsK, kz, h]⟩
/-- Row j of the table. -/
def Kj (w : World) (rb j : Nat) : Prop := ∃ (b : Nat) (l : List Ev) (n : Nat), w.cell? ⟨rb, j * 2, none⟩ = some (.slice (some ⟨b, 0, none⟩) l.length l.length) ∧ w.cell? ⟨rb, j * 2 + 1, none⟩ = some (.int .i64 (n : Int)) ∧ At w b (.cells (ecs l).toArray 34 (0, 0)) ∧ Bad l n ∧ (∀ e ∈ l, In64 e.id) ∧ l.length ≤ 5 ∧ n ≤ 5
theorem in0 : In64 0 := ⟨by decide, by decide⟩
theorem kj_of {w : World} {b0 b1 b2 b3 b4 b5 b6 b7 rb : Nat} (h : At w b0 (.cells (ecs kr0).toArray 34 (0, 0)) ∧ At w b1 (.cells (ecs kr1).toArray 34 (0, 0)) ∧ At w b2 (.cells (ecs kr2).toArray 34 (0, 0)) ∧ At w b3 (.cells (ecs kr3).toArray 34 (0, 0)) ∧ At w b4 (.cells (ecs kr4).toArray 34 (0, 0)) ∧ At w b5 (.cells (ecs kr5).toArray 34 (0, 0)) ∧ At w b6 (.cells (ecs kr6).toArray 34 (0, 0)) ∧ At w b7 (.cells (ecs kr7).toArray 34 (0, 0))) (hr : At w rb (.cells (k8c b0 b1 b2 b3 b4 b5 b6 b7) 54 (0, 0))) : ∀ j, j < 8 → Kj w rb j
  | 0, _ => ⟨b0, kr0, 1, by rw [hr.cell]; rfl, by rw [hr.cell]; rfl, h.1, bad0, by intro e he; simp only [kr0, List.mem_cons, List.not_mem_nil, or_false] at he; (try rcases he with rfl | rfl | rfl); (try rcases he with rfl | rfl); (try subst he); all_goals (first | exact in1 | exact in0), by decide, by decide⟩
  | 1, _ => ⟨b1, kr1, 0, by rw [hr.cell]; rfl, by rw [hr.cell]; rfl, h.2.1, bad1, by intro e he; simp only [kr1, List.mem_cons, List.not_mem_nil, or_false] at he; (try rcases he with rfl | rfl | rfl); (try rcases he with rfl | rfl); (try subst he); all_goals (first | exact in1 | exact in0), by decide, by decide⟩
  | 2, _ => ⟨b2, kr2, 1, by rw [hr.cell]; rfl, by rw [hr.cell]; rfl, h.2.2.1, bad2, by intro e he; simp only [kr2, List.mem_cons, List.not_mem_nil, or_false] at he; (try rcases he with rfl | rfl | rfl); (try rcases he with rfl | rfl); (try subst he); all_goals (first | exact in1 | exact in0), by decide, by decide⟩
  | 3, _ => ⟨b3, kr3, 0, by rw [hr.cell]; rfl, by rw [hr.cell]; rfl, h.2.2.2.1, bad3, by intro e he; simp only [kr3, List.mem_cons, List.not_mem_nil, or_false] at he; (try rcases he with rfl | rfl | rfl); (try rcases he with rfl | rfl); (try subst he); all_goals (first | exact in1 | exact in0), by decide, by decide⟩
  | 4, _ => ⟨b4, kr4, 0, by rw [hr.cell]; rfl, by rw [hr.cell]; rfl, h.2.2.2.2.1, bad4, by intro e he; simp only [kr4, List.mem_cons, List.not_mem_nil, or_false] at he; (try rcases he with rfl | rfl | rfl); (try rcases he with rfl | rfl); (try subst he); all_goals (first | exact in1 | exact in0), by decide, by decide⟩
  | 5, _ => ⟨b5, kr5, 0, by rw [hr.cell]; rfl, by rw [hr.cell]; rfl, h.2.2.2.2.2.1, bad5, by intro e he; simp only [kr5, List.mem_cons, List.not_mem_nil, or_false] at he; (try rcases he with rfl | rfl | rfl); (try rcases he with rfl | rfl); (try subst he); all_goals (first | exact in1 | exact in0), by decide, by decide⟩
  | 6, _ => ⟨b6, kr6, 1, by rw [hr.cell]; rfl, by rw [hr.cell]; rfl, h.2.2.2.2.2.2.1, bad6, by intro e he; simp only [kr6, List.mem_cons, List.not_mem_nil, or_false] at he; (try rcases he with rfl | rfl | rfl); (try rcases he with rfl | rfl); (try subst he); all_goals (first | exact in1 | exact in0), by decide, by decide⟩
  | 7, _ => ⟨b7, kr7, 2, by rw [hr.cell]; rfl, by rw [hr.cell]; rfl, h.2.2.2.2.2.2.2, bad7, by intro e he; simp only [kr7, List.mem_cons, List.not_mem_nil, or_false] at he; (try rcases he with rfl | rfl | rfl); (try rcases he with rfl | rfl); (try subst he); all_goals (first | exact in1 | exact in0), by decide, by decide⟩
  | j + 8, hj => by omega
theorem kr_chk {l : List Ev} {n : Nat} (hb : Bad l n) (hid : ∀ e ∈ l, In64 e.id) (hl : l.length ≤ 5) {w : World} {b : Nat} (h : At w b (.cells (ecs l).toArray 34 (0, 0))) :
    Calls Try.prog 18 #[.slice (some ⟨b, 0, none⟩) l.length l.length] w fun r w' => r = .returned (.tuple #[.int .i64 (n : Int), .int .i64 31]) ∧ Turn No w w' := by
  refine (check_any l _ l.length w (row_of_at h) hid (by omega)).mono ?_
  rintro e w' ⟨a, c, rfl, hc, ht⟩
  rcases hc with ⟨hr, _⟩ | ⟨m, hm, rfl, rfl⟩
  · exact absurd hb (hr.not_bad n)
  · obtain ⟨r1, e1, h1, f1⟩ := hb
    obtain ⟨r2, e2, h2, f2⟩ := hm
    have key : ∀ {p q : Nat} {e : Ev}, p < q → Right (l.take q) → l[p]? = some e → fits (l.take p) e = false → False := fun {p q e} hpq hr he hf => by
      have h3 : (l.take q)[p]? = some e := by rw [List.getElem?_take, if_pos hpq]; exact he
      have h4 := hr.at_ h3
      rw [List.take_take, Nat.min_eq_left (Nat.le_of_lt hpq)] at h4
      rw [h4] at hf; cases hf
    rcases Nat.lt_trichotomy n m with h | h | h
    · exact (key h r2 h1 f1).elim
    · subst h; exact ⟨rfl, ht⟩
    · exact (key h r1 h2 f2).elim
theorem KL_a3 : stA KL 3 = ans00 := by
  have : firstAt 2 3 KL = none := rfl
  simp [stA, this]
def KH : List Ev := [kz 3 1, kz 1 2]
theorem KH_cells : (ecs KH).toArray = #[.int .u8 3, .int .i64 1, .int .u8 0, .string ⟨#[]⟩, .string ⟨#[]⟩, .string ⟨#[]⟩, .bool false, .bool false, .slice none 0 0, .int .i64 0, .bool false, .string ⟨#[]⟩, .string ⟨#[]⟩, .int .u8 1, .int .i64 2, .int .u8 0, .string ⟨#[]⟩, .string ⟨#[]⟩, .string ⟨#[]⟩, .bool false, .bool false, .slice none 0 0, .int .i64 0, .bool false, .string ⟨#[]⟩, .string ⟨#[]⟩] := rfl
theorem KH_ahead : ahead KH 1 2 = true := rfl
theorem ah_any (W : World) : Calls Try.prog 26 #[.slice (some ⟨W.heap.size, 0, none⟩) 2 2, .int .i64 1, .int .i64 2] (W.alloc (.cells #[.int .u8 3, .int .i64 1, .int .u8 0, .string ⟨#[]⟩, .string ⟨#[]⟩, .string ⟨#[]⟩, .bool false, .bool false, .slice none 0 0, .int .i64 0, .bool false, .string ⟨#[]⟩, .string ⟨#[]⟩, .int .u8 1, .int .i64 2, .int .u8 0, .string ⟨#[]⟩, .string ⟨#[]⟩, .string ⟨#[]⟩, .bool false, .bool false, .slice none 0 0, .int .i64 0, .bool false, .string ⟨#[]⟩, .string ⟨#[]⟩] 34)) fun r w' => r = .returned (.bool true) ∧ Turn No (W.alloc (.cells #[.int .u8 3, .int .i64 1, .int .u8 0, .string ⟨#[]⟩, .string ⟨#[]⟩, .string ⟨#[]⟩, .bool false, .bool false, .slice none 0 0, .int .i64 0, .bool false, .string ⟨#[]⟩, .string ⟨#[]⟩, .int .u8 1, .int .i64 2, .int .u8 0, .string ⟨#[]⟩, .string ⟨#[]⟩, .string ⟨#[]⟩, .bool false, .bool false, .slice none 0 0, .int .i64 0, .bool false, .string ⟨#[]⟩, .string ⟨#[]⟩] 34)) w' := by
  have h : At (W.alloc (.cells #[.int .u8 3, .int .i64 1, .int .u8 0, .string ⟨#[]⟩, .string ⟨#[]⟩, .string ⟨#[]⟩, .bool false, .bool false, .slice none 0 0, .int .i64 0, .bool false, .string ⟨#[]⟩, .string ⟨#[]⟩, .int .u8 1, .int .i64 2, .int .u8 0, .string ⟨#[]⟩, .string ⟨#[]⟩, .string ⟨#[]⟩, .bool false, .bool false, .slice none 0 0, .int .i64 0, .bool false, .string ⟨#[]⟩, .string ⟨#[]⟩] 34)) W.heap.size (.cells (ecs KH).toArray 34 (0, 0)) := by rw [KH_cells]; exact At.new _ _
  have := ahead_any 1 2 KH (some ⟨W.heap.size, 0, none⟩) 2 (W.alloc (.cells #[.int .u8 3, .int .i64 1, .int .u8 0, .string ⟨#[]⟩, .string ⟨#[]⟩, .string ⟨#[]⟩, .bool false, .bool false, .slice none 0 0, .int .i64 0, .bool false, .string ⟨#[]⟩, .string ⟨#[]⟩, .int .u8 1, .int .i64 2, .int .u8 0, .string ⟨#[]⟩, .string ⟨#[]⟩, .string ⟨#[]⟩, .bool false, .bool false, .slice none 0 0, .int .i64 0, .bool false, .string ⟨#[]⟩, .string ⟨#[]⟩] 34)) (row_of_at h) (by decide) (by decide)
  rw [KH_ahead] at this
  exact this
end Go.Proofs.Ythopiamiipmobaa
