/-
  clonePairs, All: the pairs in a row of their own.
-/
import Derived.Test.YtjjmooegpoeomaaWDoN
import Derived.Deep.Onto
namespace Go.Proofs.Ytjjmooegpoeomaa
open Go.RowKit Go.Lib
set_option linter.unusedVariables false
set_option linter.unusedSimpArgs false

/-- A row that is being written: its first kk pairs stand. -/
structure Lw (w wr : World) (lb : Nat) (l : List Pr) (kk : Nat) : Prop where
  tu : Turn No w wr
  old : w.heap.size ≤ lb
  cur : ∃ cur : Array Value, At wr lb (.cells cur 50 (0, 0)) ∧ cur.size = l.length * 2 ∧ ∀ (j : Nat) (u : Value), (pcs (l.take kk))[j]? = some u → cur[j]? = some u
section
variable {w wr w2 : World} {lb kk : Nat} {l : List Pr}
theorem Lw.no (h : Lw w wr lb l kk) (t : Turn No wr w2) : Lw w w2 lb l kk := by
  obtain ⟨cur, h1, h2, h3⟩ := h.cur
  exact ⟨h.tu.trans t, h.old, cur, h1.no t, h2, h3⟩
theorem Lw.there (h : Lw w wr lb l kk) (i : Nat) (hi : i < l.length * 2) : ∃ u, wr.cell? ⟨lb, i, none⟩ = some u := by
  obtain ⟨cur, h1, h2, _⟩ := h.cur
  exact ⟨cur[i]'(by omega), by rw [h1.cell, Array.getElem?_eq_getElem]⟩
theorem Lw.thawed (h : Lw w wr lb l kk) (i : Nat) : wr.frozen? ⟨lb, i, none⟩ = false := by
  obtain ⟨cur, h1, _⟩ := h.cur
  exact h1.thawed i
theorem Lw.put (h : Lw w wr lb l kk) {p : Pr} (hp : l[kk]? = some p) : Lw w ((wr.setCell ⟨lb, kk * 2, none⟩ (.string p.k)).setCell ⟨lb, kk * 2 + 1, none⟩ (.string p.v)) lb l (kk + 1) := by
  obtain ⟨cur, h1, h2, h3⟩ := h.cur
  have hk : kk < l.length := (List.getElem?_eq_some_iff.1 hp).1
  refine ⟨(h.tu.setCell (p := ⟨lb, kk * 2, none⟩) (Or.inr h.old) _).setCell (p := ⟨lb, kk * 2 + 1, none⟩) (Or.inr h.old) _, h.old, _, (h1.set _ _).set _ _, by simpa using h2, fun j u hj => ?_⟩
  rw [List.take_add_one, hp, pcs_append] at hj
  have hl : (pcs (l.take kk)).length = kk * 2 := by rw [pcs_length, List.length_take]; omega
  rw [Array.getElem?_setIfInBounds, Array.getElem?_setIfInBounds]
  by_cases j1 : j < kk * 2
  · rw [if_neg (by omega), if_neg (by omega)]
    rw [List.getElem?_append_left (by omega)] at hj
    exact h3 j u hj
  · rw [List.getElem?_append_right (by omega), hl] at hj
    simp only [Option.toList_some, pcs, List.flatMap_cons, List.flatMap_nil, Pr.cs, List.append_nil] at hj
    have hb : j - kk * 2 < 2 := by
      have := (List.getElem?_eq_some_iff.1 hj).1
      simpa using this
    rcases (by omega : j = kk * 2 ∨ j = kk * 2 + 1) with e | e
    · subst e
      simp at hj
      rw [if_neg (by omega), if_pos rfl, if_pos (by omega), hj]
    · subst e
      rw [show kk * 2 + 1 - kk * 2 = 1 by omega] at hj
      simp at hj
      rw [if_pos rfl, if_pos (by simp; omega), hj]
theorem Lw.own (h : Lw w wr lb l l.length) (hn : l.length ≤ 100000) : wr.ownsRow w.heap.size 50 2 (.slice (some ⟨lb, 0, none⟩) l.length l.length) l.length (pcs l) := by
  obtain ⟨cur, h1, h2, h3⟩ := h.cur
  rw [List.take_length] at h3
  refine ⟨pcs_length l, .inr ⟨lb, l.length, cur, rfl, h.old, h1, Nat.le_refl _, by unfold maxLen; omega, h2, ?_⟩⟩
  apply List.ext_getElem?
  intro j
  rw [List.getElem?_take]
  split
  · rename_i hj
    obtain ⟨u, hu⟩ : ∃ u, (pcs l)[j]? = some u := ⟨_, List.getElem?_eq_getElem (by rw [pcs_length]; exact hj)⟩
    rw [hu, Array.getElem?_toList]
    exact h3 j u hu
  · rename_i hj
    rw [List.getElem?_eq_none (by rw [pcs_length]; omega)]
end

set_option maxHeartbeats 2000000 in
theorem clonePairs_any (l : List Pr) (A : Option Addr) (cap : Nat) (w : World) (h : Row w A (pcs l)) (hf : ∀ p ∈ l, Fit p.k ∧ Fit p.v) (hn : l.length ≤ 100000) :
    Calls Try.prog 32 #[.slice A l.length cap] w fun e w' => ∃ B, e = .returned (.slice (some ⟨B, 0, none⟩) l.length l.length) ∧ w'.ownsRow w.heap.size 50 2 (.slice (some ⟨B, 0, none⟩) l.length l.length) l.length (pcs l) ∧ Turn No w w' := by
  obtain ⟨i0, hi0, hz0, hz1, hz2⟩ := info_parts info50
  have qm : ∀ W : World, (Instr.makeSlice 22 (.int .i64 (l.length : Int)) (.int .i64 (l.length : Int))).run Try.prog W = .ok (.slice (some ⟨W.heap.size, 0, none⟩) l.length l.length) (W.alloc (.cells (madeCells #[.string ⟨#[]⟩, .string ⟨#[]⟩] (l.length * 2)) 50)) := fun W => by
    have := run_make (P := Try.prog) W 22 50 i0 _ Try.underlying22 hi0 hz0 .i64 .i64 (l.length : Int) (l.length : Int) (by omega) (by omega) (by rw [hz2]; omega) (by omega)
    simpa [hz1, Value.cells] using this
  have hL0 : Hid (Lw w (w.alloc (.cells (madeCells #[.string ⟨#[]⟩, .string ⟨#[]⟩] (l.length * 2)) 50)) w.heap.size l 0) :=
    Lib.hid ⟨(Turn.refl _ _).alloc _, Nat.le_refl _, _, At.new _ _, by rw [size_madeCells], by intro j u hj; simp [pcs] at hj⟩
  have HR := Lib.hid (And.intro h (And.intro hf hn))
  clear h hf hi0 hz0 hz1 hz2
  go_enter Try.func32, Try.ntmps32
  go_upto_region 2 with (fail)
  generalize (w.alloc (.cells (madeCells #[.string ⟨#[]⟩, .string ⟨#[]⟩] (l.length * 2)) 50)) = w1 at hL0 ⊢
  generalize w.heap.size = lb at hL0 ⊢
  go_wp2_with fail
  go_loopw [11] (fun i wr => ∃ kk : Nat, kk ≤ l.length ∧ i = .int .i64 (kk : Int) ∧ Hid (Lw w wr lb l kk)) (fun i _ => l.length - (RowKit.intOf i).toNat)
  case atStart => exact ⟨0, Nat.zero_le _, rfl, hL0⟩
  case round =>
    obtain ⟨kk, hm, rfl, HP⟩ := hrel
    clear hL0
    by_cases hlt : kk < l.length
    · obtain ⟨p, hp⟩ : ∃ p, l[kk]? = some p := ⟨l[kk], List.getElem?_eq_getElem hlt⟩
      obtain ⟨b, off, hA, hb, x0, x1⟩ := (HR.out.1.turn HP.out.tu fun _ _ _ h => h).pair hp
      have hfp := HR.out.2.1 p (List.mem_of_getElem? hp)
      have HX := Lib.hid hp
      obtain ⟨pk, pv⟩ := p
      simp only at x0 x1
      have tn : Turn No wr (wr.alloc (.cells #[.string pk, .string pv] 50)) := (Turn.refl _ _).alloc _
      have hAt := Lib.hid (At.new wr (.cells #[.string pk, .string pv] 50))
      have H2 := Lib.hid (HP.out.no tn)
      have CL := Lib.hid fun W => clonePair_any pk pv hfp.1 hfp.2 W
      subst hA
      clear hb hfp hp tn HP
      go_upto_region 5 with fail
      generalize wr.alloc (.cells #[.string pk, .string pv] 50) = w2 at H2 hAt ⊢
      generalize wr.heap.size = g at hAt ⊢
      clear x0 x1
      have y0 := hAt.out.cell 0
      have y1 := hAt.out.cell 1
      simp at y0 y1
      go_wp2_with (go_at_call 49; refine (CL.out _).mono ?_; rintro e w3 ⟨rfl, ht⟩; have H3 := Lib.hid (H2.out.no ht); clear ht; obtain ⟨u0, z0⟩ := H3.out.there (kk * 2) (by omega); obtain ⟨u1, z1⟩ := H3.out.there (kk * 2 + 1) (by omega); have f0 := H3.out.thawed (kk * 2); have f1 := H3.out.thawed (kk * 2 + 1))
      have HN := Lib.hid (H3.out.put HX.out)
      exact ⟨⟨kk + 1, by omega, by go_num, HN⟩, by simp [RowKit.intOf]; omega⟩
    · obtain rfl : kk = l.length := by omega
      go_wp2_with fail
      go_ret
      exact ⟨lb, rfl, HP.out.own HR.out.2.2, HP.out.tu⟩

/-- All -/
theorem all_any {w : World} {Z mb : Nat} {rb : Option Nat} {l : List Pr} (h : Om w Z mb rb l) :
    Calls Try.prog 14 #[.pointer (some ⟨mb, 0, none⟩)] w fun e w' => ∃ B, e = .returned (.slice (some ⟨B, 0, none⟩) l.length l.length) ∧ w'.ownsRow w.heap.size 50 2 (.slice (some ⟨B, 0, none⟩) l.length l.length) l.length (pcs l) ∧ Turn No w w' := by
  obtain ⟨A, cap, h0, hr, _⟩ := h.rowed
  have CC := Lib.hid (clonePairs_any l A cap w (row_of_own hr) h.fit (Nat.le_trans h.few (by decide)))
  have c0 := h0.cell 0
  simp only [List.getElem?_toArray, List.getElem?_cons_zero] at c0
  clear h0 hr h
  go_enter Try.func14, Try.ntmps14
  go_wp2_with (go_at_call 32; refine CC.out.mono ?_; rintro e w2 ⟨B, rfl, ho, ht⟩; have HE := Lib.hid (And.intro ho ht); clear ho ht)
  go_ret
  exact ⟨B, rfl, HE.out⟩
theorem all_nil (w : World) : Calls Try.prog 14 #[.pointer none] w fun e w' => e = .returned (.slice none 0 0) ∧ w' = w := by
  go_enter Try.func14, Try.ntmps14
  go_wp2_with fail
  go_ret
  exact ⟨rfl, rfl⟩

theorem clone25_nil (w : World) : Calls Try.prog 25 #[.slice none 0 0] w fun e w' => e = .returned (.slice none 0 0) ∧ w' = w := by
  have q22 : ∀ (w : World), (binOp .eql 22 (.slice none 0 0) (.slice none 0 0)).run Try.prog w = .ok (.bool true) w := fun w => run_eql_slice_nil w 22 50 none 0 0 0 0 Try.underlying22
  go_enter Try.func25, Try.ntmps25
  go_wp2_with fail
  go_ret
  exact ⟨rfl, rfl⟩
theorem rev26_nil (w : World) : Calls Try.prog 26 #[.slice none 0 0] w fun e w' => e = .returned (.tuple #[]) ∧ w' = w := by
  go_enter Try.func26, Try.ntmps26
  go_wp2_with fail
  go_loopw [2, 3] (fun i j wr => i = .int .i64 0 ∧ j = .int .i64 (-1) ∧ wr = w) (fun _ _ _ => 0)
  case atStart => exact ⟨rfl, rfl, rfl⟩
  case round =>
    obtain ⟨rfl, rfl, rfl⟩ := hrel
    go_wp2_with fail
    go_end0
    exact ⟨rfl, rfl⟩
theorem ins54_nil (w : World) : Calls Try.prog 54 #[.slice none 0 0, .int .i64 0, .int .i64 0, .func (.func 28) #[] #[]] w fun e w' => e = .returned (.tuple #[]) ∧ w' = w := by
  go_enter Try.func54, Try.ntmps54
  go_wp2_with fail
  go_loopw [8] (fun i wr => i = .int .i64 1 ∧ wr = w) (fun _ _ => 0)
  case atStart => exact ⟨rfl, rfl⟩
  case round =>
    obtain ⟨rfl, rfl⟩ := hrel
    go_wp2_with fail
    go_end0
    exact ⟨rfl, rfl⟩
theorem stab47_nil (w : World) : Calls Try.prog 47 #[.slice none 0 0, .int .i64 0, .func (.func 28) #[] #[]] w fun e w' => e = .returned (.tuple #[]) ∧ w' = w := by
  have C := Lib.hid ins54_nil
  go_enter Try.func47, Try.ntmps47
  go_wp2_with fail
  go_loopw [7, 8] (fun a b wr => a = .int .i64 0 ∧ b = .int .i64 20 ∧ wr = w) (fun _ _ _ => 0)
  case atStart => exact ⟨rfl, rfl, rfl⟩
  case round =>
    obtain ⟨rfl, rfl, rfl⟩ := hrel
    go_wp2_with (go_at_call 54; refine (C.out _).mono ?_; rintro e w' ⟨rfl, rfl⟩)
    go_loopw [6] (fun a wr => a = .int .i64 20 ∧ wr = w') (fun _ _ => 0)
    case atStart => exact ⟨rfl, rfl⟩
    case round =>
      obtain ⟨rfl, rfl⟩ := hrel
      go_wp2_with fail
      go_end0
      exact ⟨rfl, rfl⟩
theorem stab27_nil (w : World) : Calls Try.prog 27 #[.slice none 0 0, .func (.func 28) #[] #[]] w fun e w' => e = .returned (.tuple #[]) ∧ w' = w := by
  have C := Lib.hid stab47_nil
  go_enter Try.func27, Try.ntmps27
  go_wp2_with (go_at_call 47; refine (C.out _).mono ?_; rintro e w' ⟨rfl, rfl⟩)
  go_end0
  exact ⟨rfl, rfl⟩
theorem comp30_nil (w : World) : Calls Try.prog 30 #[.slice none 0 0, .func (.func 31) #[] #[]] w fun e w' => e = .returned (.slice none 0 0) ∧ w' = w := by
  go_enter Try.func30, Try.ntmps30
  go_wp2_with fail
  go_ret
  exact ⟨rfl, rfl⟩
/-- New of nothing. -/
theorem new_nil (w : World) {Z : Nat} (hZ : Z ≤ w.heap.size) :
    Calls Try.prog 11 #[.slice none 0 0] w fun e w' => ∃ mb rb, e = .returned (.pointer (some ⟨mb, 0, none⟩)) ∧ Om w' Z mb (some rb) [] ∧ w.heap.size ≤ mb ∧ w.heap.size ≤ rb ∧ Turn No w w' := by
  have C1 := Lib.hid clone25_nil
  have C2 := Lib.hid rev26_nil
  have C3 := Lib.hid stab27_nil
  have C4 := Lib.hid comp30_nil
  have C5 : Hid (∀ w, Calls Try.prog 32 #[.slice none 0 0] w fun e w' => ∃ B, e = .returned (.slice (some ⟨B, 0, none⟩) 0 0) ∧ w'.ownsRow w.heap.size 50 2 (.slice (some ⟨B, 0, none⟩) 0 0) 0 [] ∧ Turn No w w') := Lib.hid fun w => clonePairs_any [] none 0 w (Row.nil _ _) (by simp) (by simp)
  go_enter Try.func11, Try.ntmps11
  go_wp2_with (first | (go_at_call 25; refine (C1.out _).mono ?_; rintro e w' ⟨rfl, rfl⟩) | (go_at_call 26; refine (C2.out _).mono ?_; rintro e w' ⟨rfl, rfl⟩) | (go_at_call 27; refine (C3.out _).mono ?_; rintro e w' ⟨rfl, rfl⟩) | (go_at_call 30; refine (C4.out _).mono ?_; rintro e w' ⟨rfl, rfl⟩) | (go_at_call 32; refine (C5.out _).mono ?_; rintro e w5 ⟨B, rfl, ho, ht⟩))
  go_ret
  have hlt := ho.lt B rfl
  refine ⟨_, B, rfl, ⟨⟨some ⟨B, 0, none⟩, 0, At.new _ _, ?_, rfl⟩, List.Pairwise.nil, by simp, by simp, Nat.le_trans hZ ht.size⟩, ht.size, hlt.1, ht.alloc _⟩
  exact ((ho.alloc _).mono hZ : _)
end Go.Proofs.Ytjjmooegpoeomaa
