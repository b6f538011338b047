/-
  What Release and Alloc of the document's pool come to.
-/
import Derived.Test.YtbdfbgkfhaiccaaDoorWDocB
import Derived.Deep.Cut
namespace Go.Proofs.YtbdfbgkfhaiccaaDoor
open Go.RowKit Go.Maps
set_option linter.unusedVariables false

theorem drel_no {qv : Value} {w : World} (a : Nat) (s : Int) (g : Nat)
    (hal : ∀ W, Turn (fun _ => False) w W → Calls Tryd.prog 40 #[qv, .int .i64 (a : Int), .agg #[.int .i64 s, .int .u64 (g : Int)]] W fun e w' => e = .returned (.bool false) ∧ Turn (fun _ => False) W w') :
    Calls Tryd.prog 44 #[qv, .int .i64 (a : Int), .agg #[.int .i64 s, .int .u64 (g : Int)]] w fun e w' => e = .returned (.bool false) ∧ Turn (fun _ => False) w w' := by
  have HA := Lib.hid (hal _ ((Turn.refl _ w).alloc (.cells #[.int .i64 s, .int .u64 (g : Int)] 32)))
  clear hal
  go_enter Tryd.func44, Tryd.ntmps44
  go_wp2_with fail
  refine HA.out.mono ?_
  rintro _ w1 ⟨rfl, ht⟩
  have T1 := Lib.hid ht
  clear ht HA
  go_wp2_with fail
  go_ret
  exact ⟨rfl, ((Turn.refl _ w).alloc _).trans T1.out⟩

set_option maxRecDepth 100000 in
set_option maxHeartbeats 1000000 in
theorem drel_yes {qb lb cap : Nat} {L : List Sl} {w : World} (h : Doc w qb lb cap L) (a g k : Nat) (q : Sl) (hk : L[k]? = some q) (hw : q.who = a) (hg : q.g = g) :
    Calls Tryd.prog 44 #[.pointer (some ⟨qb, 0, none⟩), .int .i64 (a : Int), .agg #[.int .i64 (k : Int), .int .u64 (g : Int)]] w fun e w' => e = .returned (.bool true) ∧ Doc w' qb lb cap (L.set k ⟨(g + 1) % 18446744073709551616, 0, ⟨#[]⟩⟩) ∧ Turn (· = lb) w w' := by
  have t0 : Turn (fun _ => False) w (w.alloc (.cells #[.int .i64 (k : Int), .int .u64 (g : Int)] 32)) := (Turn.refl _ w).alloc _
  have HA := Lib.hid (dalive_yes (h.same t0) a g k q hk hw hg)
  have hB := At.new w (.cells #[.int .i64 (k : Int), .int .u64 (g : Int)] 32)
  have hkl : k < L.length := (List.getElem?_eq_some_iff.1 hk).1
  have hle := h.le
  have H0 := Lib.hid (And.intro h (And.intro t0 hB))
  have HK := Lib.hid hk
  have wr1 : IntKind.u64.wrap ((g : Int) + 1) = (((g + 1) % 18446744073709551616 : Nat) : Int) := by rw [IntKind.wrap_u64]; omega
  obtain ⟨g1, hg1⟩ : ∃ g1, g1 = (g + 1) % 18446744073709551616 := ⟨_, rfl⟩
  rw [← hg1] at wr1 ⊢
  have hg1l : g1 < 18446744073709551616 := by omega
  have k1' : (k : Int) < (L.length : Int) := by omega
  clear h t0 hB hk hw hg hg1
  go_enter Tryd.func44, Tryd.ntmps44
  go_wp2_with fail
  refine HA.out.mono ?_
  rintro _ w1 ⟨rfl, ht⟩
  obtain ⟨h, t0, hB⟩ := H0.out
  have h1 := (h.same t0).same ht
  have hB1 := hB.turn ht (fun h => h)
  have b0 := hB1.cell 0
  have b1 := hB1.cell 1
  simp at b0 b1
  have hh := h1.head
  obtain ⟨c0, c1, c2⟩ := h1.at HK.out
  have z0 := h1.thaw (k * 3)
  have z1 := h1.thaw (k * 3 + 1)
  have z2 := h1.thaw (k * 3 + 2)
  have H1 := Lib.hid (And.intro h1 (t0.trans ht))
  clear h t0 hB h1 hB1 ht HA H0
  generalize w.heap.size = B at b0 b1 ⊢
  obtain ⟨n, hn⟩ : ∃ n, n = L.length := ⟨_, rfl⟩
  rw [← hn] at hh hle k1'
  have HN := Lib.hid hn
  clear hn
  go_wp2_with fail
  go_region
  all_goals
    go_wp2_with fail
    go_ret
    refine ⟨rfl, ?_, ?_⟩
    · exact (H1.out.1.write hkl ⟨g1, 0, ⟨#[]⟩⟩ ⟨hg1l, Nat.zero_le _⟩).same ((Turn.refl _ _).drew)
    · exact (H1.out.2.mono (fun _ _ h => h.elim)).trans ((((Turn.refl (fun i => i = lb) w1).setCell (p := ⟨lb, k * 3, none⟩) (Or.inl rfl) _).setCell (p := ⟨lb, k * 3 + 1, none⟩) (Or.inl rfl) _).setCell (p := ⟨lb, k * 3 + 2, none⟩) (Or.inl rfl) _).drew

/-- Whose thing stands in a slot, and what, is written. -/
theorem Doc.put {wr : World} {qb lb cap : Nat} {L : List Sl} (h : Doc wr qb lb cap L) {k : Nat} {q : Sl} (hk : L[k]? = some q) (a : Nat) (x : ByteArray) (ha : a ≤ 3) :
    Doc ((wr.setCell ⟨lb, k * 3 + 1, none⟩ (.int .i64 (a : Int))).setCell ⟨lb, k * 3 + 2, none⟩ (.string x)) qb lb cap (L.set k ⟨q.g, a, x⟩) := by
  have hkl : k < L.length := (List.getElem?_eq_some_iff.1 hk).1
  obtain ⟨c, hc, r⟩ := h.row
  have t : Turn (· = lb) wr ((wr.setCell ⟨lb, k * 3 + 1, none⟩ (.int .i64 (a : Int))).setCell ⟨lb, k * 3 + 2, none⟩ (.string x)) :=
    ((Turn.refl (fun i => i = lb) wr).setCell (p := ⟨lb, k * 3 + 1, none⟩) (Or.inl rfl) _).setCell (p := ⟨lb, k * 3 + 2, none⟩) (Or.inl rfl) _
  refine ⟨?_, ⟨_, (hc.set _ _).set _ _, ?_⟩, by rw [List.length_set]; exact h.le, ?_⟩
  · rw [List.length_set]; exact h.hd.turn t h.ne
  · have hf := flat3_at L k q hk
    have hsz : k * 3 + 2 < c.size := (Array.getElem?_eq_some_iff.1 (r _ _ hf.2.2)).1
    intro j u hu
    rw [flat3_set L k _ hkl] at hu
    simp only [Array.getElem?_setIfInBounds, Array.size_setIfInBounds, List.getElem?_set, List.length_set, flat3_len] at hu ⊢
    by_cases e2 : k * 3 + 2 = j
    · subst e2
      rw [if_pos rfl, if_pos (by omega)] at hu
      rw [if_pos rfl, if_pos hsz]; exact hu
    · rw [if_neg e2] at hu ⊢
      by_cases e1 : k * 3 + 1 = j
      · subst e1
        rw [if_pos rfl, if_pos (by omega)] at hu
        rw [if_pos rfl, if_pos (by omega)]; exact hu
      · rw [if_neg e1] at hu ⊢
        by_cases e0 : k * 3 = j
        · subst e0
          rw [if_pos rfl, if_pos (by omega)] at hu
          rw [← hu]; exact r _ _ hf.1
        · rw [if_neg e0] at hu
          exact r _ _ hu
  · intro p hp
    rcases List.mem_or_eq_of_mem_set hp with h1 | h1
    · exact h.each p h1
    · rw [h1]; exact ⟨(h.each q (List.mem_of_getElem? hk)).1, ha⟩

theorem dalloc_nil (a : Nat) (x : ByteArray) (w : World) : Calls Tryd.prog 42 #[.pointer none, .int .i64 (a : Int), .string x] w fun e w' => e = .returned (.tuple #[.agg #[.int .i64 0, .int .u64 0], .int .i64 5]) ∧ Turn (fun _ => False) w w' := by
  go_enter Tryd.func42, Tryd.ntmps42
  go_wp2_with fail
  go_loop [8] (fun i => i = .int .i64 0) (fun _ => 0)
  case atStart => rfl
  case round =>
    subst hrel
    go_wp2_with fail
    exact bodyPost_ret (v := .tuple #[.agg #[.int .i64 0, .int .u64 0], .int .i64 5]) (by simp [results, Tryd.results42, go_sem]) rfl ⟨rfl, (Turn.refl _ w).alloc _⟩

set_option maxRecDepth 100000 in
set_option maxHeartbeats 1000000 in
theorem dalloc_full {qb lb cap : Nat} {L : List Sl} {w : World} (h : Doc w qb lb cap L) (a : Nat) (x : ByteArray) (hf : ∀ y, dfr L y = false) : Calls Tryd.prog 42 #[.pointer (some ⟨qb, 0, none⟩), .int .i64 (a : Int), .string x] w fun e w' => e = .returned (.tuple #[.agg #[.int .i64 0, .int .u64 0], .int .i64 5]) ∧ Turn (fun _ => False) w w' := by
  have h' := h.same ((Turn.refl _ w).alloc (.cells #[.int .i64 0, .int .u64 0] 32))
  have hh := h'.head
  have hle := h.le
  have HD := Lib.hid h'
  have HF := Lib.hid hf
  clear h h' hf
  obtain ⟨n, hn⟩ : ∃ n, n = L.length := ⟨_, rfl⟩
  rw [← hn] at hh hle
  have HN := Lib.hid hn
  clear hn
  go_enter Tryd.func42, Tryd.ntmps42
  go_wp2_with fail
  go_loop [8] (fun i => ∃ j : Nat, j ≤ n ∧ i = .int .i64 (j : Int)) (fun i => n - (intOf i).toNat)
  case atStart => exact ⟨0, Nat.zero_le _, rfl⟩
  case round =>
    obtain ⟨j, hj, rfl⟩ := hrel
    by_cases hlt : j < n
    · have hkl : (j : Int) < (n : Int) := by omega
      obtain ⟨s, hs⟩ := Doc.get L (k := j) (by rw [← HN.out]; exact hlt)
      obtain ⟨c0, c1, c2⟩ := HD.out.at hs
      have hd := (dfr_at hs).symm.trans (HF.out j)
      have k0 : ((s.who : Int) == 0) = false := by
        have : ¬ s.who = 0 := by simpa using hd
        simp; omega
      clear hs c0 c2 hd
      go_wp2_with fail
      go_round
      case rel => exact ⟨j + 1, by omega, by go_num⟩
      case measure => simp [intOf]; omega
    · have hd : decide ((j : Int) < (n : Int)) = false := by simp; omega
      go_wp2_with fail
      exact bodyPost_ret (v := .tuple #[.agg #[.int .i64 0, .int .u64 0], .int .i64 5]) (by simp [results, Tryd.results42, go_sem]) rfl ⟨rfl, (Turn.refl _ w).alloc _⟩

set_option maxRecDepth 100000 in
set_option maxHeartbeats 1000000 in
theorem dalloc_some {qb lb cap : Nat} {L : List Sl} {w : World} (h : Doc w qb lb cap L) (a : Nat) (x : ByteArray) (ha : a ≤ 3) (s : Nat) (q : Sl) (hs : L[s]? = some q) (h0 : q.who = 0) (hf : ∀ y, y < s → dfr L y = false) :
    Calls Tryd.prog 42 #[.pointer (some ⟨qb, 0, none⟩), .int .i64 (a : Int), .string x] w fun e w' => e = .returned (.tuple #[.agg #[.int .i64 (s : Int), .int .u64 (q.g : Int)], .int .i64 0]) ∧ Doc w' qb lb cap (L.set s ⟨q.g, a, x⟩) ∧ Turn (· = lb) w w' := by
  have hqb := h.hd.lt
  have hlb : lb < w.heap.size := by obtain ⟨c, hc, _⟩ := h.row; exact hc.lt
  have t0 : Turn (fun _ => False) w (w.alloc (.cells #[.int .i64 0, .int .u64 0] 32)) := (Turn.refl _ w).alloc _
  have hB := At.new w (.cells #[.int .i64 0, .int .u64 0] 32)
  have h' := h.same t0
  have hle := h.le
  have hsl : s < L.length := (List.getElem?_eq_some_iff.1 hs).1
  have neQ : ¬ qb = lb := h.ne
  obtain ⟨w1, hw1⟩ : ∃ w1, w1 = w.alloc (.cells #[.int .i64 0, .int .u64 0] 32) := ⟨_, rfl⟩
  rw [← hw1] at t0 hB h'
  obtain ⟨B, hBB⟩ : ∃ B, B = w.heap.size := ⟨_, rfl⟩
  rw [← hBB] at hB hqb hlb
  have hh := h'.head
  have z1 := h'.thaw (s * 3 + 1)
  obtain ⟨e0, e1, e2⟩ := h'.at hs
  -- behind the first store
  have t1 : Turn (· = lb) w1 (w1.setCell ⟨lb, s * 3 + 1, none⟩ (.int .i64 (a : Int))) := (Turn.refl (fun i => i = lb) w1).setCell (p := ⟨lb, s * 3 + 1, none⟩) (Or.inl rfl) _
  have hh1 : (w1.setCell ⟨lb, s * 3 + 1, none⟩ (.int .i64 (a : Int))).cell? ⟨qb, 0, none⟩ = some (.slice (some ⟨lb, 0, none⟩) L.length cap) := by simpa using (h'.hd.turn t1 neQ).cell 0
  have e21 : (w1.setCell ⟨lb, s * 3 + 1, none⟩ (.int .i64 (a : Int))).cell? ⟨lb, s * 3 + 2, none⟩ = some (.string q.x) := (World.cell?_setCell_other _ ⟨lb, s * 3 + 1, none⟩ ⟨lb, s * 3 + 2, none⟩ _ (by simp)).trans e2
  have z21 : (w1.setCell ⟨lb, s * 3 + 1, none⟩ (.int .i64 (a : Int))).frozen? ⟨lb, s * 3 + 2, none⟩ = false := by
    obtain ⟨c, hc, _⟩ := h'.row
    exact (hc.set (s * 3 + 1) (.int .i64 (a : Int))).thawed _
  -- behind the second
  have hp := h'.put hs a x ha
  obtain ⟨w2, hw2⟩ : ∃ w2, w2 = (w1.setCell ⟨lb, s * 3 + 1, none⟩ (.int .i64 (a : Int))).setCell ⟨lb, s * 3 + 2, none⟩ (.string x) := ⟨_, rfl⟩
  have t2 : Turn (· = lb) w1 w2 := by rw [hw2]; exact t1.setCell (p := ⟨lb, s * 3 + 2, none⟩) (Or.inl rfl) _
  rw [← hw2] at hp
  have hh2 := hp.head
  rw [List.length_set] at hh2
  have e02 := (hp.at (k := s) (s := ⟨q.g, a, x⟩) (List.getElem?_set_self hsl)).1
  have hB2 := hB.turn t2 (by omega)
  have b0 := hB2.cell 0
  have b1 := hB2.cell 1
  simp at b0 b1
  have y0 := hB2.thawed 0
  have y1 := hB2.thawed 1
  have t3 : Turn (· = B) w2 ((w2.setCell ⟨B, 0, none⟩ (.int .i64 (s : Int))).setCell ⟨B, 1, none⟩ (.int .u64 (q.g : Int))) := ((Turn.refl (fun i => i = B) w2).setCell (p := ⟨B, 0, none⟩) (Or.inl rfl) _).setCell (p := ⟨B, 1, none⟩) (Or.inl rfl) _
  have E := Lib.hid (And.intro (hp.turn t3 (by omega) (by omega)) (((t0.mono (fun _ _ h => h.elim)).trans t2).then t3 (fun i hi he => by omega)))
  have HD := Lib.hid h'
  have HF := Lib.hid hf
  have HW2 := Lib.hid hw2
  clear h h' hf t0 hp t1 t2 t3 hB hB2 hw2
  obtain ⟨n, hn⟩ : ∃ n, n = L.length := ⟨_, rfl⟩
  rw [← hn] at hh hh1 hh2 hle hsl
  have HN := Lib.hid hn
  clear hn
  obtain ⟨u, hu⟩ : ∃ u, u = q.g := ⟨_, rfl⟩
  rw [← hu] at e0 E e02 ⊢
  rw [h0] at e1
  clear hu
  go_enter Tryd.func42, Tryd.ntmps42
  go_wp2_with fail
  rw [← hw1, ← hBB]
  clear hw1 hBB
  go_loop [8] (fun i => ∃ j : Nat, j ≤ s ∧ i = .int .i64 (j : Int)) (fun i => s - (intOf i).toNat)
  case atStart => exact ⟨0, Nat.zero_le _, rfl⟩
  case round =>
    obtain ⟨j, hj, rfl⟩ := hrel
    have hkl : (j : Int) < (n : Int) := by omega
    by_cases hlt : j < s
    · obtain ⟨t, ht⟩ := Doc.get L (k := j) (by rw [← HN.out]; omega)
      obtain ⟨c0, c1, c2⟩ := HD.out.at ht
      have hd := (dfr_at ht).symm.trans (HF.out j hlt)
      have k0 : ((t.who : Int) == 0) = false := by
        have : ¬ t.who = 0 := by simpa using hd
        simp; omega
      clear ht c0 c2 hd e0 e1 e2 hh1 hh2 e21 z21 z1 e02 b0 b1 y0 y1
      go_wp2_with fail
      go_round
      case rel => exact ⟨j + 1, by omega, by go_num⟩
      case measure => simp [intOf]; omega
    · obtain rfl : j = s := by omega
      clear hlt hj
      go_upto_region 7 with (fail)
      rw [← HW2.out]
      go_wp2_with fail
      exact bodyPost_ret (v := .tuple #[.agg #[.int .i64 (j : Int), .int .u64 (u : Int)], .int .i64 0]) (by simp [results, Tryd.results42, go_sem, b0, b1]) rfl ⟨rfl, E.out⟩
end Go.Proofs.YtbdfbgkfhaiccaaDoor
