/-
  The document's rows, made ready: plain facts, and the row with one more Id in memory.
-/
import Derived.Test.YtllppkfeiifklaaDrw
import Derived.Test.YtllppkfeiifklaaWDin
import Derived.Deep.Upon
namespace Go.Proofs.Ytllppkfeiifklaa
open Go.RowKit Go.Lib
set_option linter.unusedVariables false
set_option maxRecDepth 20000
set_option linter.unusedSimpArgs false

/-- What rows answers. -/
def RRes (l : List Ev) (ps : List (List Wr)) (I : List Int) (M : List Pr) (row : List Int) (w : World) (e : Ending) (w' : World) : Prop := ∃ b, e = .returned (.bool b) ∧ (b = true ↔ DR l ps I M row) ∧ Turn No w w'
theorem RRes.of {l : List Ev} {ps : List (List Wr)} {I : List Int} {M : List Pr} {row : List Int} {w w' : World} {e : Ending} (b : Bool) (h1 : e = .returned (.bool b)) (h2 : b = true ↔ DR l ps I M row) (h3 : Turn No w w') : RRes l ps I M row w e w' := ⟨b, h1, h2, h3⟩
/-- May it be put next? -/
def StepD (l : List Ev) (ps : List (List Wr)) (I : List Int) (M : List Pr) (row : List Int) (id : Int) : Prop := id ∉ row ∧ (∀ a ∈ I, a ∈ row ∨ ahead l a id = false) ∧ ((survB l id = false ∧ DR l ps I M (row ++ [id])) ∨ (survB l id = true ∧ (stN l id = 3 → opA M (stO l id) (stW l ps id) = stA l id) ∧ DR l ps I (opD M (stO l id) (stW l ps id)) (row ++ [id])))
theorem DR.of_step {l : List Ev} {ps : List (List Wr)} {I : List Int} {M : List Pr} {row : List Int} {id : Int} (hI : id ∈ I) (h : StepD l ps I M row id) : DR l ps I M row := by
  obtain ⟨h1, h2, ⟨h3, h4⟩ | ⟨h3, h4, h5⟩⟩ := h
  · exact .idle hI h1 h2 h3 h4
  · exact .step hI h1 h2 h3 h4 h5
theorem DR.none {l : List Ev} {ps : List (List Wr)} {I : List Int} {M : List Pr} {row : List Int} (hd : ¬ ∀ a ∈ I, ¬ stN l a = 3 ∨ a ∈ row) (h : ∀ (j : Nat) (id : Int), I[j]? = some id → ¬ StepD l ps I M row id) : ¬ DR l ps I M row := fun hp => by
  cases hp with
  | done h1 => exact hd h1
  | idle h1 h2 h3 h4 h5 =>
    obtain ⟨j, hj⟩ := List.mem_iff_getElem?.1 h1
    exact h j _ hj ⟨h2, h3, .inl ⟨h4, h5⟩⟩
  | step h1 h2 h3 h4 h5 h6 =>
    obtain ⟨j, hj⟩ := List.mem_iff_getElem?.1 h1
    exact h j _ hj ⟨h2, h3, .inr ⟨h4, h5, h6⟩⟩
def cntL (I row : List Int) : Nat := (I.filter (fun x => decide (x ∉ row))).length
theorem cntL_le (row : List Int) (id : Int) : ∀ I : List Int, cntL I (row ++ [id]) ≤ cntL I row
  | [] => Nat.le_refl _
  | a :: t => by
    have ih := cntL_le row id t
    unfold cntL at ih ⊢
    by_cases h1 : a ∈ row
    · rw [List.filter_cons_of_neg (by simp [h1]), List.filter_cons_of_neg (by simp [h1])]
      exact ih
    · rw [List.filter_cons_of_pos (p := fun x => decide (x ∉ row)) (by simp [h1]), List.length_cons]
      by_cases h2 : a = id
      · rw [List.filter_cons_of_neg (by simp [h2])]
        omega
      · rw [List.filter_cons_of_pos (p := fun x => decide (x ∉ row ++ [id])) (by simp [h1, h2]), List.length_cons]
        omega
theorem cntL_lt {row : List Int} {id : Int} (hr : id ∉ row) : ∀ {I : List Int}, id ∈ I → cntL I (row ++ [id]) < cntL I row
  | [], h => by cases h
  | a :: t, h => by
    have hle := cntL_le row id t
    by_cases h2 : a = id
    · subst h2
      unfold cntL at hle ⊢
      rw [List.filter_cons_of_pos (p := fun x => decide (x ∉ row)) (by simp [hr]), List.length_cons, List.filter_cons_of_neg (by simp)]
      omega
    · have ih := cntL_lt hr (I := t) (by rcases List.mem_cons.1 h with h | h; exact absurd h.symm h2; exact h)
      unfold cntL at ih ⊢
      by_cases h1 : a ∈ row
      · rw [List.filter_cons_of_neg (by simp [h1]), List.filter_cons_of_neg (by simp [h1])]
        exact ih
      · rw [List.filter_cons_of_pos (p := fun x => decide (x ∉ row)) (by simp [h1]), List.length_cons, List.filter_cons_of_pos (p := fun x => decide (x ∉ row ++ [id])) (by simp [h1, h2]), List.length_cons]
        omega
theorem stN_le (l : List Ev) (id : Int) : stN l id ≤ 3 := by
  unfold stN
  split
  · decide
  · split
    · decide
    · split <;> decide
/-! The row with one more. -/
theorem new_none {W : World} {Z : Nat} (hz : Z ≤ W.heap.size) : (W.alloc (.cells #[] 3)).ownsRow Z 3 1 (.slice (some ⟨W.heap.size, 0, none⟩) 0 0) 0 [] := World.ownsRow_lit W #[] 0 hz (by decide) rfl
theorem app_row {W : World} {Z g : Nat} (hE : W.ownsRow Z 3 1 (.slice (some ⟨g, 0, none⟩) 0 0) 0 []) (hz : Z ≤ W.heap.size) {row : List Int} {Br : Option Addr} {cr : Nat} (hR : Row W Br (ics row)) (hn : row.length ≤ 100000) :
    ∃ B' c' W', AppRun 65 65 (.slice (some ⟨g, 0, none⟩) 0 0) (.slice Br row.length cr) (.slice B' row.length c') W W' ∧ W'.ownsRow Z 3 1 (.slice B' row.length c') row.length (ics row) ∧ Turn (fun i => i = g) W W' := by
  cases Br with
  | none =>
    cases row with
    | nil =>
      obtain ⟨i0, hi, _, hs, _⟩ := info_parts info3
      exact ⟨some ⟨g, 0, none⟩, 0, W, ⟨run_append_nothing (P := Try.prog) W 65 65 65 3 i0 Try.underlying65 hi (some ⟨g, 0, none⟩) 0 0 (Nat.le_refl _) _ (Src.ofNil (w := W) Try.underlying65 cr)⟩, hE, Turn.refl _ _⟩
    | cons a t =>
      obtain ⟨b, o, hA, _⟩ := hR 0 (.int .i64 a) rfl
      cases hA
  | some a =>
    have hnw : ∀ j u, (ics row)[j]? = some u → W.cell? (a.add j) = some u := by
      intro j u hj
      obtain ⟨b, o, hA, _, hc⟩ := hR j u hj
      injection hA with hA
      subst hA
      rwa [Addr.add_lit]
    obtain ⟨B', c', W', q, ho, ht, _⟩ := app_gen Try.underlying65 info3 rfl (by decide) (by decide) hE a row.length cr (ics row) (by simp [ics]) hnw (by intro u hu; obtain ⟨i, _, rfl⟩ := List.mem_map.1 hu; rfl) (by omega) hz 65
    rw [Nat.zero_add] at q ho
    refine ⟨B', c', W', q, ho, ht.mono fun k _ h => ?_⟩
    injection h with h
    exact h.symm
theorem app_id {W : World} {Z : Nat} {row : List Int} {B : Option Addr} {c : Nat} (h : W.ownsRow Z 3 1 (.slice B row.length c) row.length (ics row)) (hz : Z ≤ W.heap.size) {g : Nat} {id : Int} (hg : At W g (.cells #[.int .i64 id] 3 (0, 0))) (hn : row.length ≤ 100000) :
    ∃ B' c' W', AppRun 65 65 (.slice B row.length c) (.slice (some ⟨g, 0, none⟩) 1 1) (.slice B' (row.length + 1) c') W W' ∧ Row W' B' (ics (row ++ [id])) ∧ Turn (fun i => Z ≤ i) W W' := by
  obtain ⟨B', c', W', q, ho, ht, _⟩ := app_gen Try.underlying65 info3 rfl (by decide) (by decide) h ⟨g, 0, none⟩ 1 1 [.int .i64 id] rfl
    (fun j u hj => by rw [Addr.add_lit, Nat.zero_add, hg.cell]; simpa using hj) (by intro u hu; simp at hu; subst hu; rfl) (by omega) hz 65
  refine ⟨B', c', W', q, ?_, ht.mono fun k _ hk => ?_⟩
  · have e : ics (row ++ [id]) = ics row ++ [.int .i64 id] := by simp [ics]
    rw [e]
    exact row_of_own ho
  · rw [own_ablk] at hk
    exact (own_at h hk).1
theorem no_of {w0 W W' : World} {X : Nat → Prop} (h : Turn No w0 W) (t : Turn X W W') (hX : ∀ i, X i → w0.heap.size ≤ i) : Turn No w0 W' := h.then t fun i hi hx => by have := hX i hx; omega
section
variable {w : World} {row : List Int} {Br : Option Addr} {cr : Nat} {id : Int} (hR : Row w Br (ics row)) (hn : row.length ≤ 100000)
include hR hn
/-- The empty row, the copy, the one, both. -/
theorem ordA : ∃ B1 c1 W2 B2 c2 W4, AppRun 65 65 (.slice (some ⟨w.heap.size, 0, none⟩) 0 0) (.slice Br row.length cr) (.slice B1 row.length c1) (w.alloc (.cells #[] 3)) W2 ∧ AppRun 65 65 (.slice B1 row.length c1) (.slice (some ⟨W2.heap.size, 0, none⟩) 1 1) (.slice B2 (row.length + 1) c2) (W2.alloc (.cells #[.int .i64 id] 3)) W4 ∧ Row W4 B2 (ics (row ++ [id])) ∧ Turn No w W2 ∧ Turn No w W4 := by
  have t1 : Turn No w (w.alloc (.cells #[] 3)) := (Turn.refl _ _).alloc _
  obtain ⟨B1, c1, W2, q1, o1, u1⟩ := app_row (cr := cr) (new_none (Nat.le_refl w.heap.size)) t1.size (hR.no t1) hn
  have t2 : Turn No w W2 := no_of t1 u1 fun i hi => by omega
  have t3 : Turn No W2 (W2.alloc (.cells #[.int .i64 id] 3)) := (Turn.refl _ _).alloc _
  obtain ⟨B2, c2, W4, q2, o2, u2⟩ := app_id (own_grown o1 t3 (fun _ _ h => h)) (t2.trans t3).size (At.new W2 (.cells #[.int .i64 id] 3)) hn
  exact ⟨B1, c1, W2, B2, c2, W4, q1, q2, o2, t2, no_of (t2.trans t3) u2 fun i hi => hi⟩
/-- The empty row, the one, the copy, both. -/
theorem ordB : ∃ B1 c1 W3 B2 c2 W4, AppRun 65 65 (.slice (some ⟨w.heap.size, 0, none⟩) 0 0) (.slice Br row.length cr) (.slice B1 row.length c1) ((w.alloc (.cells #[] 3)).alloc (.cells #[.int .i64 id] 3)) W3 ∧ AppRun 65 65 (.slice B1 row.length c1) (.slice (some ⟨w.heap.size + 1, 0, none⟩) 1 1) (.slice B2 (row.length + 1) c2) W3 W4 ∧ Row W4 B2 (ics (row ++ [id])) ∧ Turn No w W3 ∧ Turn No w W4 := by
  have t1 : Turn No w (w.alloc (.cells #[] 3)) := (Turn.refl _ _).alloc _
  have t2 : Turn No (w.alloc (.cells #[] 3)) ((w.alloc (.cells #[] 3)).alloc (.cells #[.int .i64 id] 3)) := (Turn.refl _ _).alloc _
  have a2 := At.new (w.alloc (.cells #[] 3)) (.cells #[.int .i64 id] 3)
  rw [World.size_alloc] at a2
  obtain ⟨B1, c1, W3, q1, o1, u1⟩ := app_row (cr := cr) (own_grown (new_none (Nat.le_refl w.heap.size)) t2 (fun _ _ h => h)) (t1.trans t2).size (hR.no (t1.trans t2)) hn
  have t3 : Turn No w W3 := no_of (t1.trans t2) u1 fun i hi => by omega
  obtain ⟨B2, c2, W4, q2, o2, u2⟩ := app_id o1 t3.size (a2.turn u1 (by omega)) hn
  exact ⟨B1, c1, W3, B2, c2, W4, q1, q2, o2, t3, no_of t3 u2 fun i hi => hi⟩
/-- The one, the empty row, the copy, both. -/
theorem ordC : ∃ B1 c1 W3 B2 c2 W4, AppRun 65 65 (.slice (some ⟨w.heap.size + 1, 0, none⟩) 0 0) (.slice Br row.length cr) (.slice B1 row.length c1) ((w.alloc (.cells #[.int .i64 id] 3)).alloc (.cells #[] 3)) W3 ∧ AppRun 65 65 (.slice B1 row.length c1) (.slice (some ⟨w.heap.size, 0, none⟩) 1 1) (.slice B2 (row.length + 1) c2) W3 W4 ∧ Row W4 B2 (ics (row ++ [id])) ∧ Turn No w W3 ∧ Turn No w W4 := by
  have t1 : Turn No w (w.alloc (.cells #[.int .i64 id] 3)) := (Turn.refl _ _).alloc _
  have t2 : Turn No (w.alloc (.cells #[.int .i64 id] 3)) ((w.alloc (.cells #[.int .i64 id] 3)).alloc (.cells #[] 3)) := (Turn.refl _ _).alloc _
  have a1 := (At.new w (.cells #[.int .i64 id] 3)).no t2
  have e1 := new_none (W := w.alloc (.cells #[.int .i64 id] 3)) (Z := w.heap.size) t1.size
  rw [World.size_alloc] at e1
  obtain ⟨B1, c1, W3, q1, o1, u1⟩ := app_row (cr := cr) e1 (t1.trans t2).size (hR.no (t1.trans t2)) hn
  have t3 : Turn No w W3 := no_of (t1.trans t2) u1 fun i hi => by omega
  obtain ⟨B2, c2, W4, q2, o2, u2⟩ := app_id o1 t3.size (a1.turn u1 (by omega)) hn
  exact ⟨B1, c1, W3, B2, c2, W4, q1, q2, o2, t3, no_of t3 u2 fun i hi => hi⟩
end
end Go.Proofs.Ytllppkfeiifklaa
