/-
  slices.Insert and slices.Delete of one text in a row of the program's own; append, copy, clear over such rows.
  slices.Insert of one handle into a row of the program's own; append, copy, clear over such rows.
  slices.Clone of texts and of handles; cloneTexts.
-/
import Derived.Test.YtfplnobnmgbgoaaDoorJ4
import Derived.Deep.RegionLaw
namespace Go.Proofs.YtfplnobnmgbgoaaDoor
open Go.RowKit Go.Lib
set_option linter.unusedVariables false
set_option maxRecDepth 20000
set_option maxRecDepth 20000
set_option linter.unusedSimpArgs false

namespace IK
abbrev pz : Value := .string ⟨#[]⟩
theorem info50 : (Tryd.prog.info? 9).map (fun i => (i.zero, i.size, i.bytes)) = some (some pz, 1, 16) := by kernel_rfl
theorem info_size : (Tryd.prog.info? 9).map (·.size) = some 1 := by kernel_rfl
/-- A block of pairs' cells: all of them, as a list. -/
def Blk (w : World) (g : Nat) (cur : List Value) : Prop := At w g (.cells cur.toArray 9 (0, 0))
theorem blk_setRow {w : World} {g : Nat} {cur : List Value} (h : Blk w g cur) (cs : List Value) : Blk (w.setRow g cs.toArray) g cs := setRow_heap w g _ _ 9 _ h
/-- copy: into a block of pairs. -/
theorem run_cp {w : World} {g o dLen dCap sLen sCap : Nat} {cur : List Value} (hg : Blk w g cur) (sb so : Nat) (cs : List Value) (hn : cs.length = Nat.min sLen dLen)
    (hsrc : ∀ j v, cs[j]? = some v → w.cell? ⟨sb, so + j, none⟩ = some v) (hfit : o + cs.length ≤ cur.length) (h1 : ∀ v ∈ cs, v.oneCell' = true) (ty : TypeId) :
    BRun2 .copy #[74, 74] ty (.slice (some ⟨g, o, none⟩) dLen dCap) (.slice (some ⟨sb, so, none⟩) sLen sCap) (goInt (Nat.min sLen dLen)) w (w.setRow g (splice cur o cs).toArray) := by
  have hl := run_loadCells_list (P := Tryd.prog) w ⟨sb, so, none⟩ cs (fun j v h => by rw [add_lit0]; exact hsrc j v h)
  have hst := run_storeCells_at Tryd.prog g o 9 cs 0 cur.toArray w hg (by simpa using hfit) h1
  obtain ⟨i, hi, _, hz1, _⟩ := info_parts info50
  refine ⟨fun q => ?_⟩
  simp [builtin, Builtin.copy_, run_underlying Tryd.underlying74, Builtin.lenOf, Builtin.firstCells, sizeOf, typeInfo, hi, hz1, ← hn, hl, hst, splice]
/-- clear: the last n pairs from place o on. -/
theorem run_cl {w : World} {g o n cap : Nat} {cur : List Value} (hg : Blk w g cur) (hfit : o + n ≤ cur.length) (h0 : 0 < n) (ty : TypeId) :
    ∃ cs : List Value, cs.length = n ∧ BRun1 .clear #[74] ty (.slice (some ⟨g, o, none⟩) n cap) (.tuple #[]) w (w.setRow g (splice cur o cs).toArray) := by
  have hlen : (Builtin.zeroCells pz.cells n).toList.length = n := by simp [Builtin.zeroCells, Value.cells]
  have hst := run_storeCells_at Tryd.prog g o 9 (Builtin.zeroCells pz.cells n).toList 0 cur.toArray w hg (by rw [hlen]; simpa using hfit) (by
    intro v hv
    simp only [Builtin.zeroCells, Value.cells] at hv
    have hv := Array.mem_toList_iff.1 hv
    simp at hv
    obtain ⟨a, _, rfl⟩ := hv
    rw [Nat.mod_one]
    rfl)
  obtain ⟨i, hi, hz, hz1, _⟩ := info_parts info50
  refine ⟨(Builtin.zeroCells pz.cells n).toList, hlen, ⟨fun q => ?_⟩⟩
  obtain ⟨m, rfl⟩ : ∃ m, n = m + 1 := ⟨n - 1, by omega⟩
  simp [builtin, Builtin.clear_, run_underlying Tryd.underlying74, zeroValue, typeInfo, hi, hz, splice] at hst ⊢
  simp [hst]
theorem run_cl0 (w : World) (A : Option Addr) (cap : Nat) (ty : TypeId) : BRun1 .clear #[74] ty (.slice A 0 cap) (.tuple #[]) w w := by
  refine ⟨fun q => ?_⟩
  cases A <;> simp [builtin, Builtin.clear_, run_underlying Tryd.underlying74]

/-- A row of n pairs at the head of a block whose cells are cur. -/
structure Hd (w : World) (g : Nat) (cap : Nat) (cur : List Value) (l : List ByteArray) : Prop where
  blk : Blk w g cur
  size : cur.length = cap
  fits : l.length ≤ cap
  head : cur.take (l.length) = kcs l
theorem Hd.own {w : World} {g cap Z : Nat} {cur : List Value} {l : List ByteArray} (h : Hd w g cap cur l) (hZ : Z ≤ g) (hc : cap ≤ maxLen) : w.ownsRow Z 9 1 (.slice (some ⟨g, 0, none⟩) l.length cap) l.length (kcs l) :=
  ⟨by rw [kcs_length, Nat.mul_one], .inr ⟨g, cap, cur.toArray, rfl, hZ, h.blk, h.fits, hc, by simpa using h.size, by rw [Nat.mul_one]; exact h.head⟩⟩
theorem Hd.of_own {w : World} {Z n cap : Nat} {A : Option Addr} {l : List ByteArray} (h : w.ownsRow Z 9 1 (.slice A n cap) n (kcs l)) (hn : n = l.length) (h0 : 0 < cap) : ∃ g cur, A = some ⟨g, 0, none⟩ ∧ Z ≤ g ∧ cap ≤ maxLen ∧ Hd w g cap cur l := by
  subst hn
  obtain ⟨_, ⟨hv, _⟩ | ⟨g, c, cur, hv, hb, hg, hn, hc, hs, ht⟩⟩ := h
  · injection hv with _ _ e3
    omega
  · injection hv with e1 _ e3
    subst e1 e3
    exact ⟨g, cur.toList, rfl, hb, hc, ⟨by unfold Blk At; simpa using hg, by simpa using hs, hn, by rw [Nat.mul_one] at ht; exact ht⟩⟩
theorem Hd.cell {w : World} {g cap : Nat} {cur : List Value} {l : List ByteArray} (h : Hd w g cap cur l) {j : Nat} {u : Value} (hj : (kcs l)[j]? = some u) : w.cell? ⟨g, j, none⟩ = some u := by
  have h1 := At.cell h.blk j
  rw [h1]
  have hlt : j < l.length := by rw [← kcs_length]; exact (List.getElem?_eq_some_iff.1 hj).1
  rw [← h.head, List.getElem?_take, if_pos hlt] at hj
  simpa using hj

set_option maxHeartbeats 2000000 in
theorem delete_any {w : World} {g cap : Nat} {cur : List Value} (X Y : List ByteArray) (p : ByteArray) (h : Hd w g cap cur (X ++ p :: Y)) (hc : cap ≤ maxLen) :
    Calls Tryd.prog 74 #[.slice (some ⟨g, 0, none⟩) (X.length + (Y.length + 1)) cap, .int .i64 (X.length : Int), .int .i64 ((X.length : Int) + 1)] w fun e w' =>
      e = .returned (.slice (some ⟨g, 0, none⟩) (X.length + Y.length) cap) ∧ (∃ cur', Hd w' g cap cur' (X ++ Y)) ∧ Turn (fun k => k = g) w w' := by
  have hfit : X.length + (Y.length + 1) ≤ cap := by simpa using h.fits
  have hs := h.size
  have hd := h.head
  simp only [List.length_append, List.length_cons] at hd
  unfold maxLen at hc
  have hx : cur.take (X.length) = kcs X := by
    have := congrArg (List.take (X.length)) hd
    rw [List.take_take, Nat.min_eq_left (by omega), kcs_append, List.take_left' (kcs_length X)] at this
    exact this
  obtain ⟨cur1, hcur1⟩ : ∃ c, splice cur (X.length) (kcs Y) = c := ⟨_, rfl⟩
  have hY : ∀ j v, (kcs Y)[j]? = some v → w.cell? ⟨g, (X.length + 1) + j, none⟩ = some v := fun j v hj => h.cell (by
    rw [kcs_append, List.getElem?_append_right (by simp only [kcs_length] <;> omega), kcs_length]
    have : (X.length + 1) + j - X.length = 1 + j := by omega
    rw [this]
    show ([Value.string p] ++ kcs Y)[1 + j]? = some v
    rw [List.getElem?_append_right (by simp)]
    simpa using hj)
  have hlen1 : cur1.length = cap := by rw [← hcur1, length_splice _ _ _ (by simp only [kcs_length] <;> omega), hs]
  have htk1 : cur1.take ((X.length + Y.length)) = kcs (X ++ Y) := by
    rw [← hcur1, kcs_append]
    exact splice_head (k := 0) hx (by simp only [kcs_length] <;> omega) (by simp only [kcs_length] <;> omega)
  obtain ⟨i0, hi0, _, hz1, _⟩ := info_parts info50
  have hrA : ∀ so, (so = (X.length + 1) ∨ Y.length = 0) → BRun2 .append #[74, 74] 74 (.slice (some ⟨g, 0, none⟩) X.length cap) (.slice (some ⟨g, so, none⟩) Y.length (cap - (X.length + 1))) (.slice (some ⟨g, 0, none⟩) (X.length + Y.length) cap) w.drew (w.drew.setRow g cur1.toArray) := fun so hso => ⟨fun q => by
    have hY2 : ∀ j v, (kcs Y)[j]? = some v → w.cell? ⟨g, so + j, none⟩ = some v := by
      rcases hso with rfl | h0
      · exact hY
      · rw [List.eq_nil_of_length_eq_zero h0]; intro j v hj; simp [kcs] at hj
    have := run_append_room (P := Tryd.prog) w.drew 74 74 9 i0 Tryd.underlying74 hi0 g X.length cap cur.toArray h.blk ⟨g, so, none⟩ Y.length (cap - (X.length + 1)) (kcs Y) (by rw [kcs_length, hz1, Nat.mul_one]) (fun j u hj => by rw [add_lit0]; exact hY2 j u hj) (one_kcs _) (by omega) (by rw [hz1, kcs_length]; simp; omega)
    rw [hz1] at this
    simp only [builtin, Sem.run_bind, this, Result.andThen_ok, Sem.run_pure]
    rw [← hcur1]
    unfold splice
    simp⟩
  have hB1 : Blk (w.drew.setRow g cur1.toArray) g cur1 := blk_setRow (w := w.drew) h.blk _
  have t1 : Turn (fun k => k = g) w (w.drew.setRow g cur1.toArray) := (Turn.refl _ w).drew.trans (turn_setRow _ _ _)
  generalize w.drew.setRow g cur1.toArray = w2 at hrA hB1 t1
  obtain ⟨zs, hzs, hrC⟩ := run_cl (n := X.length + (Y.length + 1) - (X.length + Y.length)) (cap := cap - (X.length + Y.length)) hB1 (o := (X.length + Y.length)) (by omega) (by omega) 0
  have hFin : Hid ((∃ cur', Hd (w2.setRow g (splice cur1 ((X.length + Y.length)) zs).toArray) g cap cur' (X ++ Y)) ∧ Turn (fun k => k = g) w (w2.setRow g (splice cur1 ((X.length + Y.length)) zs).toArray)) := by
    refine Lib.hid ⟨⟨_, blk_setRow hB1 _, ?_, by simp; omega, ?_⟩, t1.trans (turn_setRow _ _ _)⟩
    · rw [length_splice _ _ _ (by omega), hlen1]
    · rw [List.length_append]
      exact splice_keep htk1 (Nat.le_refl _) (by omega)
  generalize (w2.setRow g (splice cur1 ((X.length + Y.length)) zs).toArray) = w3 at hrC hFin
  clear h hd hx hcur1 hY hlen1 htk1 hi0 hz1 hB1 t1 hzs hs
  have n1 : X.length ≤ cap := by omega
  have n2 : X.length + 1 ≤ X.length + (Y.length + 1) := by omega
  have n3 : X.length + (Y.length + 1) - (X.length + 1) = Y.length := by omega
  have n4 : (0 : Int) ≤ (X.length : Int) + 1 := by omega
  have n5 : (1 : Int) ≤ (Y.length : Int) + 1 := by omega
  have hcase : Hid (cap = X.length + 1 ∨ ¬ cap = X.length + 1) := Lib.hid (Decidable.em _)
  go_enter Tryd.func74, Tryd.ntmps74
  go_wp2_with fail
  rcases hcase.out with hq | hq
  · have hrA1 := hrA 0 (Or.inr (by omega))
    clear hrA hcase
    have n6 : (X.length : Int) ≤ (X.length : Int) + 1 := by omega
    subst hq
    rw [show X.length + 1 - (X.length + 1) = 0 by omega] at hrA1
    go_region_law ((refine step_brun2 (by rfl) _ _ .append _ (by rfl) _ _ _ (by simp [Act.eval, Act.put]) (by simp [Act.eval, Act.put]) hrA1 ?_))
    all_goals go_wp2_with (refine wpList_brun1 (by rfl) _ .clear _ (by rfl) _ _ (by rfl) hrC ?_)
    all_goals go_ret
    all_goals exact ⟨rfl, hFin.out⟩
  · have hrA1 := hrA _ (Or.inl rfl)
    clear hrA hcase
    go_region_law ((refine step_brun2 (by rfl) _ _ .append _ (by rfl) _ _ _ (by simp [Act.eval, Act.put]) (by simp [Act.eval, Act.put]) hrA1 ?_))
    all_goals go_wp2_with (refine wpList_brun1 (by rfl) _ .clear _ (by rfl) _ _ (by rfl) hrC ?_)
    all_goals go_ret
    all_goals exact ⟨rfl, hFin.out⟩

theorem app_own {w : World} {Z : Nat} {v : Value} {n : Nat} {xs : List Value} (h : w.ownsRow Z 9 1 v n xs) (vb : Nat) (p : ByteArray) (hp : At w vb (.cells #[.string p] 9 (0, 0))) (hn : n + 1 ≤ 1000000) (hz : Z ≤ w.heap.size) (ty : TypeId) :
    ∃ B cap w', BRun2 .append #[74, 74] ty v (.slice (some ⟨vb, 0, none⟩) 1 1) (.slice B (n + 1) cap) w w' ∧ w'.ownsRow Z 9 1 (.slice B (n + 1) cap) (n + 1) (xs ++ [Value.string p]) ∧ Turn (fun i => v.ownBlock = some i) w w' ∧ ((Value.slice B (n + 1) cap).ownBlock = v.ownBlock ∨ (Value.slice B (n + 1) cap).ownBlock = some w.heap.size) := by
  obtain ⟨i0, hi, hz0, hz1, hz2⟩ := info_parts info50
  obtain ⟨v', w', hr, h2, h3, _, h5⟩ := run_append_own_at (P := Tryd.prog) w Z 74 ty 9 i0 pz 1 16 Tryd.underlying74 hi hz0 hz1 hz2 (by rfl) (by decide) v n xs h ⟨vb, 0, none⟩ 1 1 [Value.string p] (by simp) (fun j u hj => by
      rw [add_lit0, hp.cell]
      rw [Nat.zero_add]
      rw [show (#[Value.string p] : Array Value) = [Value.string p].toArray from rfl]
      simpa using hj) (fun u hu => one_kcs [p] u (by simpa [kcs] using hu)) (by unfold maxLen; omega) (by omega) hz
  obtain ⟨B, cap, rfl⟩ := own_form h2
  exact ⟨B, cap, w', ⟨fun q => by simp only [builtin, Sem.run_bind, hr, Result.andThen_ok, Sem.run_pure]⟩, h2, (Turn.refl _ w).grown h3 (fun k hk => Or.inl hk), h5⟩

set_option maxHeartbeats 1000000 in
theorem insert_end {w : World} {Z g cap n : Nat} {xs : List Value} (h : w.ownsRow Z 9 1 (.slice (some ⟨g, 0, none⟩) n cap) n xs) (vb : Nat) (p : ByteArray) (hp : At w vb (.cells #[.string p] 9 (0, 0))) (hn : n ≤ 100000) (hcap : n ≤ cap) (hz : Z ≤ w.heap.size) :
    Calls Tryd.prog 68 #[.slice (some ⟨g, 0, none⟩) n cap, .int .i64 (n : Int), .slice (some ⟨vb, 0, none⟩) 1 1] w fun e w' => ∃ B cap', e = .returned (.slice B (n + 1) cap') ∧
      w'.ownsRow Z 9 1 (.slice B (n + 1) cap') (n + 1) (xs ++ [Value.string p]) ∧ Turn (fun i => i = g) w w' ∧ ((Value.slice B (n + 1) cap').ownBlock = some g ∨ (Value.slice B (n + 1) cap').ownBlock = some w.heap.size) := by
  obtain ⟨B, cap', w2, hr, ho, ht, hB⟩ := app_own h vb p hp (by omega) hz 74
  have hF := Lib.hid (and3 ho (ht.mono (Y := fun i => i = g) fun k _ hk => by simpa [Value.ownBlock, eq_comm] using hk) hB)
  clear h hp ho ht hz hB
  go_enter Tryd.func68, Tryd.ntmps68
  go_wp2_with (refine wpList_brun2 (by rfl) _ _ .append _ (by rfl) _ _ _ (by rfl) (by rfl) hr ?_)
  all_goals go_ret
  all_goals exact ⟨B, cap', rfl, hF.out⟩
set_option maxHeartbeats 1000000 in
theorem insert_nil (w : World) (vb : Nat) (p : ByteArray) (hp : At w vb (.cells #[.string p] 9 (0, 0))) {Z : Nat} (hz : Z ≤ w.heap.size) :
    Calls Tryd.prog 68 #[.slice none 0 0, .int .i64 0, .slice (some ⟨vb, 0, none⟩) 1 1] w fun e w' => ∃ B cap', e = .returned (.slice B 1 cap') ∧
      w'.ownsRow Z 9 1 (.slice B 1 cap') 1 [Value.string p] ∧ Turn No w w' ∧ (Value.slice B 1 cap').ownBlock = some w.heap.size := by
  obtain ⟨B, cap', w2, hr, ho, ht, hB⟩ := app_own (World.ownsRow_nil w Z 9 1) vb p hp (by omega) hz 74
  have hB2 : (Value.slice B (0 + 1) cap').ownBlock = some w.heap.size := by
    rcases hB with h1 | h1
    · exfalso
      rcases ho.2 with ⟨hv, _⟩ | ⟨g, c, cur, hv, _⟩
      · injection hv with _ e2 _; cases e2
      · rw [hv] at h1; cases h1
    · exact h1
  have hF := Lib.hid (and3 ho (ht.mono (Y := No) fun k _ hk => by simp [Value.ownBlock] at hk) hB2)
  clear hp ho ht hz hB hB2
  go_enter Tryd.func68, Tryd.ntmps68
  go_wp2_with (refine wpList_brun2 (by rfl) _ _ .append _ (by rfl) _ _ _ (by rfl) (by rfl) hr ?_)
  all_goals go_ret
  all_goals exact ⟨B, cap', rfl, hF.out⟩

theorem kcs_mid (X Y : List ByteArray) (p : ByteArray) : kcs (X ++ p :: Y) = kcs X ++ [Value.string p] ++ kcs Y := by
  rw [kcs_append, List.append_assoc]
  rfl
theorem Hd.pre {w : World} {g cap : Nat} {cur : List Value} {X Y : List ByteArray} (h : Hd w g cap cur (X ++ Y)) : cur.take (X.length) = kcs X := by
  have := congrArg (List.take (X.length)) h.head
  rw [List.length_append, List.take_take, Nat.min_eq_left (by omega), kcs_append, List.take_left' (kcs_length X)] at this
  exact this
theorem Hd.src {w : World} {g cap : Nat} {cur : List Value} {X Y : List ByteArray} (h : Hd w g cap cur (X ++ Y)) : ∀ j v, (kcs Y)[j]? = some v → w.cell? ⟨g, X.length + j, none⟩ = some v := fun j v hj => h.cell (by
  rw [kcs_append, List.getElem?_append_right (by simp only [kcs_length] <;> omega), kcs_length, Nat.add_sub_cancel_left]
  exact hj)
/-- Two splices: a pair, and behind it the rest. -/
theorem two_splices {R : List Value} {X Y : List ByteArray} (p : ByteArray) (hR : R.take (X.length) = kcs X) (hl : (X.length + 1 + Y.length) ≤ R.length) :
    (splice (splice R (X.length) [Value.string p]) ((X.length + 1)) (kcs Y)).take ((X.length + 1 + Y.length)) = kcs (X ++ p :: Y) := by
  have h1 : (splice R (X.length) [Value.string p]).take ((X.length + 1)) = kcs X ++ [Value.string p] := splice_head (k := 0) hR (by simp <;> omega) (by simp <;> omega)
  have hl2 : (splice R (X.length) [Value.string p]).length = R.length := length_splice _ _ _ (by simp <;> omega)
  rw [kcs_mid]
  exact splice_head (k := 0) h1 (by simp only [kcs_length] <;> omega) (by simp only [kcs_length, hl2] <;> omega)
/-- The other way round: the rest first, moved up; then the pair. -/
theorem splices_two {R : List Value} {X Y : List ByteArray} (p : ByteArray) (hR : R.take (X.length) = kcs X) (hl : (X.length + 1 + Y.length) ≤ R.length) :
    (splice (splice R ((X.length + 1)) (kcs Y)) (X.length) [Value.string p]).take ((X.length + 1 + Y.length)) = kcs (X ++ p :: Y) := by
  have e1 : (splice R ((X.length + 1)) (kcs Y)).take (X.length) = kcs X := splice_keep hR (by omega) (by omega)
  have e2 : (splice R ((X.length + 1)) (kcs Y)).drop (X.length + [Value.string p].length) = kcs Y ++ R.drop ((X.length + 1) + (kcs Y).length) := by
    rw [show X.length + [Value.string p].length = (X.length + 1) by simp <;> omega]
    unfold splice
    rw [List.drop_left' (by rw [List.length_take]; omega)]
  rw [splice.eq_1 (splice R ((X.length + 1)) (kcs Y)), e1, e2, kcs_mid, ← List.append_assoc, ← List.append_assoc, List.take_left']
  simp [kcs_length]
  omega
theorem Hd.shape {w : World} {g cap : Nat} {cur : List Value} {l : List ByteArray} (h : Hd w g cap cur l) : w.shape? g = some (9, cap) := by
  have := h.blk
  unfold Blk At at this
  simp [World.shape?, this, h.size]
theorem pair_src {w : World} {vb : Nat} {p : ByteArray} (hp : At w vb (.cells #[.string p] 9 (0, 0))) : ∀ j v, [Value.string p][j]? = some v → w.cell? ⟨vb, 0 + j, none⟩ = some v := fun j v hj => by
  rw [hp.cell, Nat.zero_add, show (#[Value.string p] : Array Value) = [Value.string p].toArray from rfl]
  simpa using hj

set_option maxHeartbeats 400000 in
theorem insert_room {w : World} {g cap : Nat} {cur : List Value} (X Y : List ByteArray) (h : Hd w g cap cur (X ++ Y)) (hc : cap ≤ maxLen) (hY : 0 < Y.length) (vb : Nat) (p : ByteArray) (hp : At w vb (.cells #[.string p] 9 (0, 0))) (hne : vb ≠ g) (hroom : X.length + Y.length + 1 ≤ cap) :
    Calls Tryd.prog 68 #[.slice (some ⟨g, 0, none⟩) (X.length + Y.length) cap, .int .i64 (X.length : Int), .slice (some ⟨vb, 0, none⟩) 1 1] w fun e w' =>
      e = .returned (.slice (some ⟨g, 0, none⟩) (X.length + Y.length + 1) cap) ∧ (∃ cur', Hd w' g cap cur' (X ++ p :: Y)) ∧ Turn (fun k => k = g) w w' := by
  unfold maxLen at hc
  have hs := h.size
  have hov : ∀ lb cb, (callFunc 86 #[.slice (some ⟨vb, 0, none⟩) 1 1, .slice (some ⟨g, (X.length + 1), none⟩) lb cb]).run Tryd.prog w = .ok (.value (.bool false)) w := fun lb cb => by
    rw [run_callFunc_extern Tryd.func86 (by kernel_rfl) (by kernel_rfl) (by kernel_rfl) (e := Extern.SlicesOverlaps.overlaps #[74, 74] #[4]) (by kernel_rfl),
      Lib.run_overlaps_apart w 74 4 9 Tryd.underlying74 1 Tryd.sizeOf9 ⟨vb, 0, none⟩ ⟨g, (X.length + 1), none⟩ 1 1 lb cb hne 9 9 1 (cap) (At.shape hp) h.shape (by omega) (hp.thawed 0) (hp.thawed 1)]
    rfl
  obtain ⟨c1, hc1⟩ : ∃ c, splice cur ((X.length + 1)) (kcs Y) = c := ⟨_, rfl⟩
  have l1 : c1.length = cap := by rw [← hc1, length_splice _ _ _ (by simp only [kcs_length] <;> omega), hs]
  have hr1 : BRun2 .copy #[74, 74] 3 (.slice (some ⟨g, (X.length + 1), none⟩) (Y.length) (cap - (X.length + 1))) (.slice (some ⟨g, X.length, none⟩) (Y.length + 1) (cap - X.length)) (goInt Y.length) w.drew (w.drew.setRow g c1.toArray) := by
    have := run_cp (w := w.drew) (g := g) (o := (X.length + 1)) (dLen := Y.length) (dCap := cap - (X.length + 1)) (sLen := Y.length + 1) (sCap := cap - X.length) h.blk g (X.length) (kcs Y) (by rw [kcs_length, show Nat.min (Y.length + 1) (Y.length) = Y.length by simp only [Nat.min_def]; split <;> omega]) h.src (by simp only [kcs_length] <;> omega) (one_kcs _) 3
    rw [hc1, show Nat.min (Y.length + 1) (Y.length) = Y.length by simp only [Nat.min_def]; split <;> omega] at this
    exact this
  have b1 : Blk (w.drew.setRow g c1.toArray) g c1 := blk_setRow (w := w.drew) h.blk _
  have t1 : Turn (fun k => k = g) w (w.drew.setRow g c1.toArray) := (Turn.refl _ w).drew.trans (turn_setRow _ _ _)
  have hp1 := hp.turn t1 (by omega)
  generalize w.drew.setRow g c1.toArray = w2 at hr1 b1 t1 hp1
  have hr2 : BRun2 .copy #[74, 74] 3 (.slice (some ⟨g, X.length, none⟩) (Y.length + 1) (cap - X.length)) (.slice (some ⟨vb, 0, none⟩) 1 1) (goInt 1) w2 (w2.setRow g (splice c1 (X.length) [Value.string p]).toArray) := by
    have hm : Nat.min 1 (Y.length + 1) = 1 := by simp only [Nat.min_def]; split <;> omega
    have := run_cp (w := w2) (g := g) (o := X.length) (dLen := Y.length + 1) (dCap := cap - X.length) (sLen := 1) (sCap := 1) b1 vb 0 [Value.string p] (by rw [hm]; rfl) (pair_src hp1) (by simp <;> omega) (fun u hu => one_kcs [p] u (by simpa [kcs] using hu)) 3
    rw [hm] at this
    exact this
  have hFin : Hid ((∃ cur', Hd (w2.setRow g (splice c1 (X.length) [Value.string p]).toArray) g cap cur' (X ++ p :: Y)) ∧ Turn (fun k => k = g) w (w2.setRow g (splice c1 (X.length) [Value.string p]).toArray)) := by
    refine Lib.hid ⟨⟨_, blk_setRow b1 _, ?_, by simp; omega, ?_⟩, t1.trans (turn_setRow _ _ _)⟩
    · rw [length_splice _ _ _ (by simp <;> omega), l1]
    · have := splices_two (Y := Y) p h.pre (by omega)
      rw [hc1] at this
      rw [show (X ++ p :: Y).length = X.length + 1 + Y.length by simp <;> omega]
      exact this
  generalize w2.setRow g (splice c1 (X.length) [Value.string p]).toArray = w3 at hr2 hFin
  have e1 : X.length + Y.length + 1 - (X.length + 1) = Y.length := by omega
  have e2 : X.length + Y.length + 1 - X.length = Y.length + 1 := by omega
  have n1 : ¬ ((X.length : Int) = (X.length : Int) + (Y.length : Int)) := by omega
  have n2 : X.length ≤ X.length + Y.length := by omega
  have n3 : ¬ (cap = X.length) := by omega
  have n4 : ¬ (cap = X.length + 1) := by omega
  have n5 : (0 : Int) ≤ (X.length : Int) + 1 := by omega
  have n6 : ¬ ((cap : Int) < (X.length : Int) + (Y.length : Int) + 1) := by omega
  have n7 : ¬ (Y.length = 0) := by omega
  have m1 : IntKind.i64.wrap ((X.length : Int) + 1) = (X.length : Int) + 1 := by rw [IntKind.wrap_i64]; omega
  have m2 : ((X.length : Int) + 1).toNat = X.length + 1 := by omega
  have n8 : (X.length : Int) + 1 ≤ (X.length : Int) + (Y.length : Int) + 1 := by omega
  have n9 : (X.length : Int) ≤ (X.length : Int) + (Y.length : Int) + 1 := by omega
  clear h hs hc1 l1 b1 t1 hp1 hp hne
  go_enter Tryd.func68, Tryd.ntmps68
  go_wp2_with (simp only [hov])
  go_region_law ((refine step_brun2 (by rfl) _ _ .copy _ (by rfl) _ _ _ (by simp [Act.eval, Act.put]) (by simp [Act.eval, Act.put]) hr1 ?_))
  all_goals go_wp2_with (refine wpList_brun2 (by rfl) _ _ .copy _ (by rfl) _ _ _ (by rfl) (by rfl) hr2 ?_)
  all_goals go_ret
  all_goals exact ⟨rfl, hFin.out⟩

set_option maxHeartbeats 1000000 in
theorem insert_grow {w : World} {g cap : Nat} {cur : List Value} (X Y : List ByteArray) (h : Hd w g cap cur (X ++ Y)) (hn : X.length + Y.length ≤ 100000) (hY : 0 < Y.length) (vb : Nat) (p : ByteArray) (hp : At w vb (.cells #[.string p] 9 (0, 0))) (hroom : cap < X.length + Y.length + 1) :
    Calls Tryd.prog 68 #[.slice (some ⟨g, 0, none⟩) (X.length + Y.length) cap, .int .i64 (X.length : Int), .slice (some ⟨vb, 0, none⟩) 1 1] w fun e w' => ∃ cap' cur', cap' ≤ maxLen ∧
      e = .returned (.slice (some ⟨w.heap.size, 0, none⟩) (X.length + Y.length + 1) cap') ∧ Hd w' w.heap.size cap' cur' (X ++ p :: Y) ∧ Turn No w w' := by
  have hfit : X.length + Y.length ≤ cap := by simpa using h.fits
  obtain ⟨i0, hi0, hz0, hz1, hz2⟩ := info_parts info50
  obtain ⟨G, hG⟩ : ∃ G, grownCap w (X.length + Y.length + 1) cap 9 = G := ⟨_, rfl⟩
  have hGn : X.length + Y.length + 1 ≤ G := by rw [← hG]; exact grownCap_ge w _ _ _
  have hGm : G ≤ maxLen := by rw [← hG]; exact grownCap_le_maxLen w _ _ _ (by unfold maxLen; omega)
  obtain ⟨R, hR⟩ : ∃ R : List Value, ((kcs X).toArray ++ Builtin.zeroCells pz.cells (Y.length + 1) ++ Builtin.zeroCells pz.cells (G - (X.length + Y.length + 1))).toList = R := ⟨_, rfl⟩
  have hRl : R.length = G := by
    rw [← hR]
    simp [kcs_length, Builtin.zeroCells, Value.cells]
    omega
  have hRp : R.take (X.length) = kcs X := by
    rw [← hR]
    simp only [Array.toList_append, List.append_assoc]
    rw [List.take_left' (kcs_length X)]
  have hrz : BRun2 .append #[74, 3] 74 (.slice (some ⟨g, 0, none⟩) X.length cap) (.int .i64 ((Y.length : Int) + 1)) (.slice (some ⟨w.heap.size, 0, none⟩) (X.length + Y.length + 1) G) w (w.drew.alloc (.cells R.toArray 9)) := ⟨fun q => by
    have hold : (Builtin.firstCells i0.size X.length (.slice (some ⟨g, 0, none⟩) X.length cap)).run Tryd.prog w.drew = .ok (kcs X).toArray w.drew := by
      rw [hz1]
      exact run_firstCells_some w.drew 1 X.length ⟨g, 0, none⟩ X.length cap (kcs X) (by rw [kcs_length, Nat.mul_one]) (fun j v hj => by
        rw [add_lit0, Nat.zero_add]
        exact h.cell (by rw [kcs_append, List.getElem?_append_left (List.getElem?_eq_some_iff.1 hj).1]; exact hj))
    have := Lib.run_append_grow_zeros (P := Tryd.prog) w 74 3 74 9 i0 pz .i64 .i64 Tryd.underlying74 Tryd.underlying3 hi0 hz0 (some ⟨g, 0, none⟩) X.length cap (kcs X) hold (Y.length + 1) (by omega) (by rw [hz1]; decide) (by omega) (by omega) (by rw [hz2]; omega) (by rw [hz2]; exact growslice_fits (by omega) (by omega))
    rw [show X.length + (Y.length + 1) = X.length + Y.length + 1 by omega, hG] at this
    rw [show ((Y.length : Int) + 1) = ((Y.length + 1 : Nat) : Int) by omega]
    simp only [builtin, Sem.run_bind, this, Result.andThen_ok, Sem.run_pure]
    rw [← hR]⟩
  have hb : Blk (w.drew.alloc (.cells R.toArray 9)) w.heap.size R := At.new w.drew _
  have t1 : Turn No w (w.drew.alloc (.cells R.toArray 9)) := (Turn.refl _ w).drew.alloc _
  have hp1 := hp.no t1
  have h1 : ∀ j v, (kcs Y)[j]? = some v → (w.drew.alloc (.cells R.toArray 9)).cell? ⟨g, X.length + j, none⟩ = some v := fun j v hj => by
    rw [World.cell?_of_block (t1.block g h.blk.lt (fun h => h))]
    exact h.src j v hj
  have hgl : g < w.heap.size := h.blk.lt
  have hvl : vb < w.heap.size := hp.lt
  obtain ⟨gn, hgn⟩ : ∃ gn, w.heap.size = gn := ⟨_, rfl⟩
  rw [hgn] at hrz hb hgl hvl ⊢
  generalize w.drew.alloc (.cells R.toArray 9) = w2 at hrz hb t1 hp1 h1
  -- the pair
  obtain ⟨c1, hc1⟩ : ∃ c, splice R (X.length) [Value.string p] = c := ⟨_, rfl⟩
  have hr1 : BRun2 .copy #[74, 74] 3 (.slice (some ⟨gn, X.length, none⟩) (Y.length + 1) (G - X.length)) (.slice (some ⟨vb, 0, none⟩) 1 1) (goInt 1) w2 (w2.setRow gn c1.toArray) := by
    have hm : Nat.min 1 (Y.length + 1) = 1 := by simp only [Nat.min_def]; split <;> omega
    have := run_cp (w := w2) (g := gn) (o := X.length) (dLen := Y.length + 1) (dCap := G - X.length) (sLen := 1) (sCap := 1) hb vb 0 [Value.string p] (by rw [hm]; rfl) (pair_src hp1) (by simp <;> omega) (fun u hu => one_kcs [p] u (by simpa [kcs] using hu)) 3
    rw [hm, hc1] at this
    exact this
  have b2 : Blk (w2.setRow gn c1.toArray) gn c1 := blk_setRow hb _
  have t2 : Turn No w (w2.setRow gn c1.toArray) := t1.then (turn_setRow w2 gn _) (fun i hi e => by omega)
  have h2 : ∀ j v, (kcs Y)[j]? = some v → (w2.setRow gn c1.toArray).cell? ⟨g, X.length + j, none⟩ = some v := fun j v hj => by
    rw [cell_setRow_other w2 gn _ _ (by show g ≠ gn; omega)]
    exact h1 j v hj
  generalize w2.setRow gn c1.toArray = w3 at hr1 b2 t2 h2
  have hr2 : BRun2 .copy #[74, 74] 3 (.slice (some ⟨gn, (X.length + 1), none⟩) Y.length (G - (X.length + 1))) (.slice (some ⟨g, X.length, none⟩) Y.length (cap - X.length)) (goInt Y.length) w3.drew (w3.drew.setRow gn (splice c1 ((X.length + 1)) (kcs Y)).toArray) := by
    have hm : Nat.min Y.length Y.length = Y.length := Nat.min_self _
    have hl1 : c1.length = G := by rw [← hc1, length_splice _ _ _ (by simp <;> omega), hRl]
    have := run_cp (w := w3.drew) (g := gn) (o := (X.length + 1)) (dLen := Y.length) (dCap := G - (X.length + 1)) (sLen := Y.length) (sCap := cap - X.length) b2 g (X.length) (kcs Y) (by rw [hm, kcs_length]) h2 (by simp only [kcs_length] <;> omega) (one_kcs _) 3
    rw [hm] at this
    exact this
  have hFin : Hid (Hd (w3.drew.setRow gn (splice c1 ((X.length + 1)) (kcs Y)).toArray) gn G (splice c1 ((X.length + 1)) (kcs Y)) (X ++ p :: Y) ∧ Turn No w (w3.drew.setRow gn (splice c1 ((X.length + 1)) (kcs Y)).toArray) ∧ G ≤ maxLen) := by
    have hl1 : c1.length = G := by rw [← hc1, length_splice _ _ _ (by simp <;> omega), hRl]
    refine Lib.hid ⟨⟨blk_setRow (w := w3.drew) b2 _, ?_, by simp; omega, ?_⟩, t2.drew.then (turn_setRow w3.drew gn _) (fun i hi e => by omega), hGm⟩
    · rw [length_splice _ _ _ (by simp only [kcs_length] <;> omega), hl1]
    · have := two_splices (Y := Y) p hRp (by omega)
      rw [hc1] at this
      rw [show (X ++ p :: Y).length = X.length + 1 + Y.length by simp <;> omega]
      exact this
  generalize w3.drew.setRow gn (splice c1 ((X.length + 1)) (kcs Y)).toArray = w4 at hr2 hFin
  unfold maxLen at hGm
  have e1 : X.length + Y.length + 1 - (X.length + 1) = Y.length := by omega
  have e2 : X.length + Y.length + 1 - X.length = Y.length + 1 := by omega
  have e3 : X.length + Y.length - X.length = Y.length := by omega
  have n1 : ¬ ((X.length : Int) = (X.length : Int) + (Y.length : Int)) := by omega
  have n2 : X.length ≤ X.length + Y.length := by omega
  have n3 : ¬ (cap = X.length) := by omega
  have n4 : ¬ (G = X.length + 1) := by omega
  have n4' : ¬ (G = X.length) := by omega
  have n5 : (0 : Int) ≤ (X.length : Int) + 1 := by omega
  have n6 : ((cap : Int) < (X.length : Int) + (Y.length : Int) + 1) := by omega
  have n7 : ¬ (Y.length = 0) := by omega
  have n10 : X.length ≤ cap := by omega
  have n11 : (X.length : Int) ≤ (X.length : Int) + (Y.length : Int) := by omega
  have m1 : IntKind.i64.wrap ((X.length : Int) + 1) = (X.length : Int) + 1 := by rw [IntKind.wrap_i64]; omega
  have m2 : ((X.length : Int) + 1).toNat = X.length + 1 := by omega
  have n8 : (X.length : Int) + 1 ≤ (X.length : Int) + (Y.length : Int) + 1 := by omega
  have n9 : (X.length : Int) ≤ (X.length : Int) + (Y.length : Int) + 1 := by omega
  have m3 : (X.length : Int) + (Y.length : Int) + 1 - (X.length : Int) = (Y.length : Int) + 1 := by omega
  have HG := Lib.hid hG
  clear h hi0 hz0 hz1 hz2 hG hGn hR hRl hRp hb t1 hp1 h1 hgl hvl hgn hc1 b2 t2 h2 hp
  go_enter Tryd.func68, Tryd.ntmps68
  go_wp2_with (first | (refine wpList_brun2 (by rfl) _ _ .append _ (by rfl) _ _ _ (by rfl) (by rfl) hrz ?_) | (refine wpList_brun2 (by rfl) _ _ .copy _ (by rfl) _ _ _ (by rfl) (by rfl) hr1 ?_))
  go_region_law ((refine step_brun2 (by rfl) _ _ .copy _ (by rfl) _ _ _ (by simp [Act.eval, Act.put]) (by simp [Act.eval, Act.put]) hr2 ?_))
  all_goals go_wp2_with fail
  all_goals go_ret
  all_goals exact ⟨G, _, hFin.out.2.2, rfl, hFin.out.1, hFin.out.2.1⟩

theorem insert_any {w : World} {Z cap : Nat} {A : Option Addr} (X Y : List ByteArray) (h : w.ownsRow Z 9 1 (.slice A (X.length + Y.length) cap) (X.length + Y.length) (kcs (X ++ Y)))
    (hn : X.length + Y.length ≤ 50000) (vb : Nat) (p : ByteArray) (hp : At w vb (.cells #[.string p] 9 (0, 0))) (hne : (Value.slice A (X.length + Y.length) cap).ownBlock ≠ some vb) (hz : Z ≤ w.heap.size) :
    Calls Tryd.prog 68 #[.slice A (X.length + Y.length) cap, .int .i64 (X.length : Int), .slice (some ⟨vb, 0, none⟩) 1 1] w fun e w' => ∃ B cap', e = .returned (.slice (some ⟨B, 0, none⟩) (X.length + Y.length + 1) cap') ∧
      w'.ownsRow Z 9 1 (.slice (some ⟨B, 0, none⟩) (X.length + Y.length + 1) cap') (X.length + Y.length + 1) (kcs (X ++ p :: Y)) ∧ Turn (fun k => (Value.slice A (X.length + Y.length) cap).ownBlock = some k) w w' ∧ ((Value.slice A (X.length + Y.length) cap).ownBlock = some B ∨ w.heap.size ≤ B) := by
  have hlen : (X ++ p :: Y).length = X.length + Y.length + 1 := by simp; omega
  rcases h.2 with ⟨hv, h0⟩ | ⟨g, c, cur, hv, hb, hg, hnc, hc, hs, ht⟩
  · injection hv with e1 e2 e3
    subst e1 e3
    have hX : X = [] := List.eq_nil_of_length_eq_zero (by omega)
    have hY : Y = [] := List.eq_nil_of_length_eq_zero (by omega)
    subst hX hY
    refine (insert_nil w vb p hp hz).mono ?_
    rintro e w' ⟨B, cap', rfl, ho, ht, hB⟩
    rcases ho.2 with ⟨hv, _⟩ | ⟨g, c, cur, hv, hb, hg, _⟩
    · injection hv with _ e2 _; cases e2
    · injection hv with e1 _ e3
      subst e1
      injection hB with hB
      exact ⟨g, cap', rfl, ho, ht.mono (fun _ _ h => h.elim), .inr (Nat.le_of_eq hB.symm)⟩
  · injection hv with e1 e2 e3
    subst e1 e3
    have hd : Hd w g cap cur.toList (X ++ Y) := ⟨by unfold Blk At; simpa using hg, by simpa using hs, by simpa using hnc, by rw [Nat.mul_one] at ht; simpa using ht⟩
    by_cases hY : Y.length = 0
    · have hY : Y = [] := List.eq_nil_of_length_eq_zero hY
      subst hY
      refine (insert_end (n := X.length + 0) h vb p hp (by omega) hnc hz).mono ?_
      rintro e w' ⟨B, cap', rfl, ho, ht, hB⟩
      have hxs : kcs (X ++ []) ++ [Value.string p] = kcs (X ++ [p]) := by rw [kcs_append X [p]]; simp [kcs]
      rw [hxs] at ho
      rcases ho.2 with ⟨hv, _⟩ | ⟨g2, c2, cur2, hv, hb2, hg2, _⟩
      · injection hv with _ e2 _; cases e2
      · injection hv with e1 _ e3
        subst e1
        refine ⟨g2, cap', rfl, ho, ht.mono (fun k _ e => by subst e; rfl), ?_⟩
        rcases hB with hB | hB
        · injection hB with hB
          have hB : g2 = g := hB
          subst hB
          exact .inl rfl
        · injection hB with hB; exact .inr (Nat.le_of_eq hB.symm)
    · by_cases hroom : X.length + Y.length + 1 ≤ cap
      · refine (insert_room X Y hd hc (by omega) vb p hp (fun e => hne (by rw [e]; rfl)) hroom).mono ?_
        rintro e w' ⟨rfl, ⟨cur', hd'⟩, ht⟩
        have := hd'.own hb hc
        rw [hlen] at this
        exact ⟨g, cap, rfl, this, ht.mono (fun k _ e => by subst e; rfl), .inl rfl⟩
      · refine (insert_grow X Y hd (by omega) (by omega) vb p hp (by omega)).mono ?_
        rintro e w' ⟨cap', cur', hc', rfl, hd', ht⟩
        have := hd'.own hz hc'
        rw [hlen] at this
        exact ⟨_, cap', rfl, this, ht.mono (fun _ _ h => h.elim), .inr (Nat.le_refl _)⟩

end IK
end Go.Proofs.YtfplnobnmgbgoaaDoor
namespace Go.Proofs.YtfplnobnmgbgoaaDoor
open Go.RowKit Go.Lib
set_option linter.unusedVariables false
set_option maxRecDepth 20000
set_option maxRecDepth 20000
set_option linter.unusedSimpArgs false

namespace IH
abbrev pz : Value := .agg #[.int .i64 0, .int .u64 0]
theorem info50 : (Tryd.prog.info? 77).map (fun i => (i.zero, i.size, i.bytes)) = some (some pz, 2, 16) := by kernel_rfl
theorem info_size : (Tryd.prog.info? 77).map (·.size) = some 2 := by kernel_rfl
/-- A block of pairs' cells: all of them, as a list. -/
def Blk (w : World) (g : Nat) (cur : List Value) : Prop := At w g (.cells cur.toArray 77 (0, 0))
theorem blk_setRow {w : World} {g : Nat} {cur : List Value} (h : Blk w g cur) (cs : List Value) : Blk (w.setRow g cs.toArray) g cs := setRow_heap w g _ _ 77 _ h
/-- copy: into a block of pairs. -/
theorem run_cp {w : World} {g o dLen dCap sLen sCap : Nat} {cur : List Value} (hg : Blk w g cur) (sb so : Nat) (cs : List Value) (hn : cs.length = Nat.min sLen dLen * 2)
    (hsrc : ∀ j v, cs[j]? = some v → w.cell? ⟨sb, so + j, none⟩ = some v) (hfit : o + cs.length ≤ cur.length) (h1 : ∀ v ∈ cs, v.oneCell' = true) (ty : TypeId) :
    BRun2 .copy #[75, 75] ty (.slice (some ⟨g, o, none⟩) dLen dCap) (.slice (some ⟨sb, so, none⟩) sLen sCap) (goInt (Nat.min sLen dLen)) w (w.setRow g (splice cur o cs).toArray) := by
  have hl := run_loadCells_list (P := Tryd.prog) w ⟨sb, so, none⟩ cs (fun j v h => by rw [add_lit0]; exact hsrc j v h)
  have hst := run_storeCells_at Tryd.prog g o 77 cs 0 cur.toArray w hg (by simpa using hfit) h1
  obtain ⟨i, hi, _, hz1, _⟩ := info_parts info50
  refine ⟨fun q => ?_⟩
  simp [builtin, Builtin.copy_, run_underlying Tryd.underlying75, Builtin.lenOf, Builtin.firstCells, sizeOf, typeInfo, hi, hz1, ← hn, hl, hst, splice]
/-- clear: the last n pairs from place o on. -/
theorem run_cl {w : World} {g o n cap : Nat} {cur : List Value} (hg : Blk w g cur) (hfit : o + n * 2 ≤ cur.length) (h0 : 0 < n) (ty : TypeId) :
    ∃ cs : List Value, cs.length = n * 2 ∧ BRun1 .clear #[75] ty (.slice (some ⟨g, o, none⟩) n cap) (.tuple #[]) w (w.setRow g (splice cur o cs).toArray) := by
  have hlen : (Builtin.zeroCells pz.cells n).toList.length = n * 2 := by simp [Builtin.zeroCells, Value.cells]
  have hst := run_storeCells_at Tryd.prog g o 77 (Builtin.zeroCells pz.cells n).toList 0 cur.toArray w hg (by rw [hlen]; simpa using hfit) (by
    intro v hv
    simp only [Builtin.zeroCells, Value.cells] at hv
    have hv := Array.mem_toList_iff.1 hv
    simp at hv
    obtain ⟨a, _, rfl⟩ := hv
    have : a % 2 = 0 ∨ a % 2 = 1 := by omega
    rcases this with h | h <;> rw [h] <;> rfl)
  obtain ⟨i, hi, hz, hz1, _⟩ := info_parts info50
  refine ⟨(Builtin.zeroCells pz.cells n).toList, hlen, ⟨fun q => ?_⟩⟩
  obtain ⟨m, rfl⟩ : ∃ m, n = m + 1 := ⟨n - 1, by omega⟩
  simp [builtin, Builtin.clear_, run_underlying Tryd.underlying75, zeroValue, typeInfo, hi, hz, splice] at hst ⊢
  simp [hst]
theorem run_cl0 (w : World) (A : Option Addr) (cap : Nat) (ty : TypeId) : BRun1 .clear #[75] ty (.slice A 0 cap) (.tuple #[]) w w := by
  refine ⟨fun q => ?_⟩
  cases A <;> simp [builtin, Builtin.clear_, run_underlying Tryd.underlying75]

/-- A row of n pairs at the head of a block whose cells are cur. -/
structure Hd (w : World) (g : Nat) (cap : Nat) (cur : List Value) (l : List Hn) : Prop where
  blk : Blk w g cur
  size : cur.length = cap * 2
  fits : l.length ≤ cap
  head : cur.take (l.length * 2) = hcs l
theorem Hd.own {w : World} {g cap Z : Nat} {cur : List Value} {l : List Hn} (h : Hd w g cap cur l) (hZ : Z ≤ g) (hc : cap ≤ maxLen) : w.ownsRow Z 77 2 (.slice (some ⟨g, 0, none⟩) l.length cap) l.length (hcs l) :=
  ⟨hcs_length l, .inr ⟨g, cap, cur.toArray, rfl, hZ, h.blk, h.fits, hc, by simpa using h.size, h.head⟩⟩
theorem Hd.of_own {w : World} {Z n cap : Nat} {A : Option Addr} {l : List Hn} (h : w.ownsRow Z 77 2 (.slice A n cap) n (hcs l)) (hn : n = l.length) (h0 : 0 < cap) : ∃ g cur, A = some ⟨g, 0, none⟩ ∧ Z ≤ g ∧ cap ≤ maxLen ∧ Hd w g cap cur l := by
  subst hn
  obtain ⟨_, ⟨hv, _⟩ | ⟨g, c, cur, hv, hb, hg, hn, hc, hs, ht⟩⟩ := h
  · injection hv with _ _ e3
    omega
  · injection hv with e1 _ e3
    subst e1 e3
    exact ⟨g, cur.toList, rfl, hb, hc, ⟨by unfold Blk At; simpa using hg, by simpa using hs, hn, ht⟩⟩
theorem Hd.cell {w : World} {g cap : Nat} {cur : List Value} {l : List Hn} (h : Hd w g cap cur l) {j : Nat} {u : Value} (hj : (hcs l)[j]? = some u) : w.cell? ⟨g, j, none⟩ = some u := by
  have h1 := At.cell h.blk j
  rw [h1]
  have hlt : j < l.length * 2 := by rw [← hcs_length]; exact (List.getElem?_eq_some_iff.1 hj).1
  rw [← h.head, List.getElem?_take, if_pos hlt] at hj
  simpa using hj

theorem app_own {w : World} {Z : Nat} {v : Value} {n : Nat} {xs : List Value} (h : w.ownsRow Z 77 2 v n xs) (vb : Nat) (p : Hn) (hp : At w vb (.cells #[.int .i64 p.slot, .int .u64 p.gen] 77 (0, 0))) (hn : n + 1 ≤ 1000000) (hz : Z ≤ w.heap.size) (ty : TypeId) :
    ∃ B cap w', BRun2 .append #[75, 75] ty v (.slice (some ⟨vb, 0, none⟩) 1 1) (.slice B (n + 1) cap) w w' ∧ w'.ownsRow Z 77 2 (.slice B (n + 1) cap) (n + 1) (xs ++ p.cs) ∧ Turn (fun i => v.ownBlock = some i) w w' ∧ ((Value.slice B (n + 1) cap).ownBlock = v.ownBlock ∨ (Value.slice B (n + 1) cap).ownBlock = some w.heap.size) := by
  obtain ⟨i0, hi, hz0, hz1, hz2⟩ := info_parts info50
  obtain ⟨v', w', hr, h2, h3, _, h5⟩ := run_append_own_at (P := Tryd.prog) w Z 75 ty 77 i0 pz 2 16 Tryd.underlying75 hi hz0 hz1 hz2 (by rfl) (by decide) v n xs h ⟨vb, 0, none⟩ 1 1 p.cs (by simp [Hn.cs]) (fun j u hj => by
      rw [add_lit0, hp.cell]
      rw [Nat.zero_add]
      rw [show (#[Value.int .i64 p.slot, Value.int .u64 p.gen] : Array Value) = p.cs.toArray from rfl]
      simpa using hj) (fun u hu => one_hcs [p] u (by simpa [hcs] using hu)) (by unfold maxLen; omega) (by omega) hz
  obtain ⟨B, cap, rfl⟩ := own_form h2
  exact ⟨B, cap, w', ⟨fun q => by simp only [builtin, Sem.run_bind, hr, Result.andThen_ok, Sem.run_pure]⟩, h2, (Turn.refl _ w).grown h3 (fun k hk => Or.inl hk), h5⟩

set_option maxHeartbeats 1000000 in
theorem insert_end {w : World} {Z g cap n : Nat} {xs : List Value} (h : w.ownsRow Z 77 2 (.slice (some ⟨g, 0, none⟩) n cap) n xs) (vb : Nat) (p : Hn) (hp : At w vb (.cells #[.int .i64 p.slot, .int .u64 p.gen] 77 (0, 0))) (hn : n ≤ 100000) (hcap : n ≤ cap) (hz : Z ≤ w.heap.size) :
    Calls Tryd.prog 90 #[.slice (some ⟨g, 0, none⟩) n cap, .int .i64 (n : Int), .slice (some ⟨vb, 0, none⟩) 1 1] w fun e w' => ∃ B cap', e = .returned (.slice B (n + 1) cap') ∧
      w'.ownsRow Z 77 2 (.slice B (n + 1) cap') (n + 1) (xs ++ p.cs) ∧ Turn (fun i => i = g) w w' ∧ ((Value.slice B (n + 1) cap').ownBlock = some g ∨ (Value.slice B (n + 1) cap').ownBlock = some w.heap.size) := by
  obtain ⟨B, cap', w2, hr, ho, ht, hB⟩ := app_own h vb p hp (by omega) hz 75
  have hF := Lib.hid (and3 ho (ht.mono (Y := fun i => i = g) fun k _ hk => by simpa [Value.ownBlock, eq_comm] using hk) hB)
  clear h hp ho ht hz hB
  go_enter Tryd.func90, Tryd.ntmps90
  go_wp2_with (refine wpList_brun2 (by rfl) _ _ .append _ (by rfl) _ _ _ (by rfl) (by rfl) hr ?_)
  all_goals go_ret
  all_goals exact ⟨B, cap', rfl, hF.out⟩
set_option maxHeartbeats 1000000 in
theorem insert_nil (w : World) (vb : Nat) (p : Hn) (hp : At w vb (.cells #[.int .i64 p.slot, .int .u64 p.gen] 77 (0, 0))) {Z : Nat} (hz : Z ≤ w.heap.size) :
    Calls Tryd.prog 90 #[.slice none 0 0, .int .i64 0, .slice (some ⟨vb, 0, none⟩) 1 1] w fun e w' => ∃ B cap', e = .returned (.slice B 1 cap') ∧
      w'.ownsRow Z 77 2 (.slice B 1 cap') 1 p.cs ∧ Turn No w w' ∧ (Value.slice B 1 cap').ownBlock = some w.heap.size := by
  obtain ⟨B, cap', w2, hr, ho, ht, hB⟩ := app_own (World.ownsRow_nil w Z 77 2) vb p hp (by omega) hz 75
  have hB2 : (Value.slice B (0 + 1) cap').ownBlock = some w.heap.size := by
    rcases hB with h1 | h1
    · exfalso
      rcases ho.2 with ⟨hv, _⟩ | ⟨g, c, cur, hv, _⟩
      · injection hv with _ e2 _; cases e2
      · rw [hv] at h1; cases h1
    · exact h1
  have hF := Lib.hid (and3 ho (ht.mono (Y := No) fun k _ hk => by simp [Value.ownBlock] at hk) hB2)
  clear hp ho ht hz hB hB2
  go_enter Tryd.func90, Tryd.ntmps90
  go_wp2_with (refine wpList_brun2 (by rfl) _ _ .append _ (by rfl) _ _ _ (by rfl) (by rfl) hr ?_)
  all_goals go_ret
  all_goals exact ⟨B, cap', rfl, hF.out⟩

theorem hcs_mid (X Y : List Hn) (p : Hn) : hcs (X ++ p :: Y) = hcs X ++ p.cs ++ hcs Y := by
  rw [hcs_append, List.append_assoc]
  rfl
theorem Hd.pre {w : World} {g cap : Nat} {cur : List Value} {X Y : List Hn} (h : Hd w g cap cur (X ++ Y)) : cur.take (X.length * 2) = hcs X := by
  have := congrArg (List.take (X.length * 2)) h.head
  rw [List.length_append, List.take_take, Nat.min_eq_left (by omega), hcs_append, List.take_left' (hcs_length X)] at this
  exact this
theorem Hd.src {w : World} {g cap : Nat} {cur : List Value} {X Y : List Hn} (h : Hd w g cap cur (X ++ Y)) : ∀ j v, (hcs Y)[j]? = some v → w.cell? ⟨g, X.length * 2 + j, none⟩ = some v := fun j v hj => h.cell (by
  rw [hcs_append, List.getElem?_append_right (by rw [hcs_length]; omega), hcs_length, Nat.add_sub_cancel_left]
  exact hj)
/-- Two splices: a pair, and behind it the rest. -/
theorem two_splices {R : List Value} {X Y : List Hn} (p : Hn) (hR : R.take (X.length * 2) = hcs X) (hl : (X.length + 1 + Y.length) * 2 ≤ R.length) :
    (splice (splice R (X.length * 2) p.cs) ((X.length + 1) * 2) (hcs Y)).take ((X.length + 1 + Y.length) * 2) = hcs (X ++ p :: Y) := by
  have h1 : (splice R (X.length * 2) p.cs).take ((X.length + 1) * 2) = hcs X ++ p.cs := splice_head (k := 0) hR (by simp [Hn.cs]; omega) (by simp [Hn.cs]; omega)
  have hl2 : (splice R (X.length * 2) p.cs).length = R.length := length_splice _ _ _ (by simp [Hn.cs]; omega)
  rw [hcs_mid]
  exact splice_head (k := 0) h1 (by rw [hcs_length]; omega) (by rw [hcs_length, hl2]; omega)
/-- The other way round: the rest first, moved up; then the pair. -/
theorem splices_two {R : List Value} {X Y : List Hn} (p : Hn) (hR : R.take (X.length * 2) = hcs X) (hl : (X.length + 1 + Y.length) * 2 ≤ R.length) :
    (splice (splice R ((X.length + 1) * 2) (hcs Y)) (X.length * 2) p.cs).take ((X.length + 1 + Y.length) * 2) = hcs (X ++ p :: Y) := by
  have e1 : (splice R ((X.length + 1) * 2) (hcs Y)).take (X.length * 2) = hcs X := splice_keep hR (by omega) (by omega)
  have e2 : (splice R ((X.length + 1) * 2) (hcs Y)).drop (X.length * 2 + p.cs.length) = hcs Y ++ R.drop ((X.length + 1) * 2 + (hcs Y).length) := by
    rw [show X.length * 2 + p.cs.length = (X.length + 1) * 2 by simp [Hn.cs]; omega]
    unfold splice
    rw [List.drop_left' (by rw [List.length_take]; omega)]
  rw [splice.eq_1 (splice R ((X.length + 1) * 2) (hcs Y)), e1, e2, hcs_mid, ← List.append_assoc, ← List.append_assoc, List.take_left']
  simp [hcs_length, Hn.cs]
  omega
theorem Hd.shape {w : World} {g cap : Nat} {cur : List Value} {l : List Hn} (h : Hd w g cap cur l) : w.shape? g = some (77, cap * 2) := by
  have := h.blk
  unfold Blk At at this
  simp [World.shape?, this, h.size]
theorem pair_src {w : World} {vb : Nat} {p : Hn} (hp : At w vb (.cells #[.int .i64 p.slot, .int .u64 p.gen] 77 (0, 0))) : ∀ j v, p.cs[j]? = some v → w.cell? ⟨vb, 0 + j, none⟩ = some v := fun j v hj => by
  rw [hp.cell, Nat.zero_add, show (#[Value.int .i64 p.slot, Value.int .u64 p.gen] : Array Value) = p.cs.toArray from rfl]
  simpa using hj

set_option maxHeartbeats 400000 in
theorem insert_room {w : World} {g cap : Nat} {cur : List Value} (X Y : List Hn) (h : Hd w g cap cur (X ++ Y)) (hc : cap ≤ maxLen) (hY : 0 < Y.length) (vb : Nat) (p : Hn) (hp : At w vb (.cells #[.int .i64 p.slot, .int .u64 p.gen] 77 (0, 0))) (hne : vb ≠ g) (hroom : X.length + Y.length + 1 ≤ cap) :
    Calls Tryd.prog 90 #[.slice (some ⟨g, 0, none⟩) (X.length + Y.length) cap, .int .i64 (X.length : Int), .slice (some ⟨vb, 0, none⟩) 1 1] w fun e w' =>
      e = .returned (.slice (some ⟨g, 0, none⟩) (X.length + Y.length + 1) cap) ∧ (∃ cur', Hd w' g cap cur' (X ++ p :: Y)) ∧ Turn (fun k => k = g) w w' := by
  unfold maxLen at hc
  have hs := h.size
  have hov : ∀ lb cb, (callFunc 101 #[.slice (some ⟨vb, 0, none⟩) 1 1, .slice (some ⟨g, (X.length + 1) * 2, none⟩) lb cb]).run Tryd.prog w = .ok (.value (.bool false)) w := fun lb cb => by
    rw [run_callFunc_extern Tryd.func101 (by kernel_rfl) (by kernel_rfl) (by kernel_rfl) (e := Extern.SlicesOverlaps.overlaps #[75, 75] #[4]) (by kernel_rfl),
      Lib.run_overlaps_apart w 75 4 77 Tryd.underlying75 2 Tryd.sizeOf77 ⟨vb, 0, none⟩ ⟨g, (X.length + 1) * 2, none⟩ 1 1 lb cb hne 77 77 2 (cap * 2) (At.shape hp) h.shape (by omega) (hp.thawed 0) (hp.thawed 2)]
    rfl
  obtain ⟨c1, hc1⟩ : ∃ c, splice cur ((X.length + 1) * 2) (hcs Y) = c := ⟨_, rfl⟩
  have l1 : c1.length = cap * 2 := by rw [← hc1, length_splice _ _ _ (by rw [hcs_length]; omega), hs]
  have hr1 : BRun2 .copy #[75, 75] 3 (.slice (some ⟨g, (X.length + 1) * 2, none⟩) (Y.length) (cap - (X.length + 1))) (.slice (some ⟨g, X.length * 2, none⟩) (Y.length + 1) (cap - X.length)) (goInt Y.length) w.drew (w.drew.setRow g c1.toArray) := by
    have := run_cp (w := w.drew) (g := g) (o := (X.length + 1) * 2) (dLen := Y.length) (dCap := cap - (X.length + 1)) (sLen := Y.length + 1) (sCap := cap - X.length) h.blk g (X.length * 2) (hcs Y) (by rw [hcs_length, show Nat.min (Y.length + 1) (Y.length) = Y.length by simp only [Nat.min_def]; split <;> omega]) h.src (by rw [hcs_length]; omega) (one_hcs _) 3
    rw [hc1, show Nat.min (Y.length + 1) (Y.length) = Y.length by simp only [Nat.min_def]; split <;> omega] at this
    exact this
  have b1 : Blk (w.drew.setRow g c1.toArray) g c1 := blk_setRow (w := w.drew) h.blk _
  have t1 : Turn (fun k => k = g) w (w.drew.setRow g c1.toArray) := (Turn.refl _ w).drew.trans (turn_setRow _ _ _)
  have hp1 := hp.turn t1 (by omega)
  generalize w.drew.setRow g c1.toArray = w2 at hr1 b1 t1 hp1
  have hr2 : BRun2 .copy #[75, 75] 3 (.slice (some ⟨g, X.length * 2, none⟩) (Y.length + 1) (cap - X.length)) (.slice (some ⟨vb, 0, none⟩) 1 1) (goInt 1) w2 (w2.setRow g (splice c1 (X.length * 2) p.cs).toArray) := by
    have hm : Nat.min 1 (Y.length + 1) = 1 := by simp only [Nat.min_def]; split <;> omega
    have := run_cp (w := w2) (g := g) (o := X.length * 2) (dLen := Y.length + 1) (dCap := cap - X.length) (sLen := 1) (sCap := 1) b1 vb 0 p.cs (by rw [hm]; rfl) (pair_src hp1) (by simp [Hn.cs]; omega) (fun u hu => one_hcs [p] u (by simpa [hcs] using hu)) 3
    rw [hm] at this
    exact this
  have hFin : Hid ((∃ cur', Hd (w2.setRow g (splice c1 (X.length * 2) p.cs).toArray) g cap cur' (X ++ p :: Y)) ∧ Turn (fun k => k = g) w (w2.setRow g (splice c1 (X.length * 2) p.cs).toArray)) := by
    refine Lib.hid ⟨⟨_, blk_setRow b1 _, ?_, by simp; omega, ?_⟩, t1.trans (turn_setRow _ _ _)⟩
    · rw [length_splice _ _ _ (by simp [Hn.cs]; omega), l1]
    · have := splices_two (Y := Y) p h.pre (by omega)
      rw [hc1] at this
      rw [show (X ++ p :: Y).length = X.length + 1 + Y.length by simp; omega]
      exact this
  generalize w2.setRow g (splice c1 (X.length * 2) p.cs).toArray = w3 at hr2 hFin
  have e1 : X.length + Y.length + 1 - (X.length + 1) = Y.length := by omega
  have e2 : X.length + Y.length + 1 - X.length = Y.length + 1 := by omega
  have n1 : ¬ ((X.length : Int) = (X.length : Int) + (Y.length : Int)) := by omega
  have n2 : X.length ≤ X.length + Y.length := by omega
  have n3 : ¬ (cap = X.length) := by omega
  have n4 : ¬ (cap = X.length + 1) := by omega
  have n5 : (0 : Int) ≤ (X.length : Int) + 1 := by omega
  have n6 : ¬ ((cap : Int) < (X.length : Int) + (Y.length : Int) + 1) := by omega
  have n7 : ¬ (Y.length = 0) := by omega
  have m1 : IntKind.i64.wrap ((X.length : Int) + 1) = (X.length : Int) + 1 := by rw [IntKind.wrap_i64]; omega
  have m2 : ((X.length : Int) + 1).toNat = X.length + 1 := by omega
  have n8 : (X.length : Int) + 1 ≤ (X.length : Int) + (Y.length : Int) + 1 := by omega
  have n9 : (X.length : Int) ≤ (X.length : Int) + (Y.length : Int) + 1 := by omega
  clear h hs hc1 l1 b1 t1 hp1 hp hne
  go_enter Tryd.func90, Tryd.ntmps90
  go_wp2_with (simp only [hov])
  go_region_law ((refine step_brun2 (by rfl) _ _ .copy _ (by rfl) _ _ _ (by simp [Act.eval, Act.put]) (by simp [Act.eval, Act.put]) hr1 ?_))
  all_goals go_wp2_with (refine wpList_brun2 (by rfl) _ _ .copy _ (by rfl) _ _ _ (by rfl) (by rfl) hr2 ?_)
  all_goals go_ret
  all_goals exact ⟨rfl, hFin.out⟩

set_option maxHeartbeats 1000000 in
theorem insert_grow {w : World} {g cap : Nat} {cur : List Value} (X Y : List Hn) (h : Hd w g cap cur (X ++ Y)) (hn : X.length + Y.length ≤ 100000) (hY : 0 < Y.length) (vb : Nat) (p : Hn) (hp : At w vb (.cells #[.int .i64 p.slot, .int .u64 p.gen] 77 (0, 0))) (hroom : cap < X.length + Y.length + 1) :
    Calls Tryd.prog 90 #[.slice (some ⟨g, 0, none⟩) (X.length + Y.length) cap, .int .i64 (X.length : Int), .slice (some ⟨vb, 0, none⟩) 1 1] w fun e w' => ∃ cap' cur', cap' ≤ maxLen ∧
      e = .returned (.slice (some ⟨w.heap.size, 0, none⟩) (X.length + Y.length + 1) cap') ∧ Hd w' w.heap.size cap' cur' (X ++ p :: Y) ∧ Turn No w w' := by
  have hfit : X.length + Y.length ≤ cap := by simpa using h.fits
  obtain ⟨i0, hi0, hz0, hz1, hz2⟩ := info_parts info50
  obtain ⟨G, hG⟩ : ∃ G, grownCap w (X.length + Y.length + 1) cap 77 = G := ⟨_, rfl⟩
  have hGn : X.length + Y.length + 1 ≤ G := by rw [← hG]; exact grownCap_ge w _ _ _
  have hGm : G ≤ maxLen := by rw [← hG]; exact grownCap_le_maxLen w _ _ _ (by unfold maxLen; omega)
  obtain ⟨R, hR⟩ : ∃ R : List Value, ((hcs X).toArray ++ Builtin.zeroCells pz.cells (Y.length + 1) ++ Builtin.zeroCells pz.cells (G - (X.length + Y.length + 1))).toList = R := ⟨_, rfl⟩
  have hRl : R.length = G * 2 := by
    rw [← hR]
    simp [hcs_length, Builtin.zeroCells, Value.cells]
    omega
  have hRp : R.take (X.length * 2) = hcs X := by
    rw [← hR]
    simp only [Array.toList_append, List.append_assoc]
    rw [List.take_left' (hcs_length X)]
  have hrz : BRun2 .append #[75, 3] 75 (.slice (some ⟨g, 0, none⟩) X.length cap) (.int .i64 ((Y.length : Int) + 1)) (.slice (some ⟨w.heap.size, 0, none⟩) (X.length + Y.length + 1) G) w (w.drew.alloc (.cells R.toArray 77)) := ⟨fun q => by
    have hold : (Builtin.firstCells i0.size X.length (.slice (some ⟨g, 0, none⟩) X.length cap)).run Tryd.prog w.drew = .ok (hcs X).toArray w.drew := by
      rw [hz1]
      exact run_firstCells_some w.drew 2 X.length ⟨g, 0, none⟩ X.length cap (hcs X) (by rw [hcs_length]) (fun j v hj => by
        rw [add_lit0, Nat.zero_add]
        exact h.cell (by rw [hcs_append, List.getElem?_append_left (List.getElem?_eq_some_iff.1 hj).1]; exact hj))
    have := Lib.run_append_grow_zeros (P := Tryd.prog) w 75 3 75 77 i0 pz .i64 .i64 Tryd.underlying75 Tryd.underlying3 hi0 hz0 (some ⟨g, 0, none⟩) X.length cap (hcs X) hold (Y.length + 1) (by omega) (by rw [hz1]; decide) (by omega) (by omega) (by rw [hz2]; omega) (by rw [hz2]; exact growslice_fits (by omega) (by omega))
    rw [show X.length + (Y.length + 1) = X.length + Y.length + 1 by omega, hG] at this
    rw [show ((Y.length : Int) + 1) = ((Y.length + 1 : Nat) : Int) by omega]
    simp only [builtin, Sem.run_bind, this, Result.andThen_ok, Sem.run_pure]
    rw [← hR]⟩
  have hb : Blk (w.drew.alloc (.cells R.toArray 77)) w.heap.size R := At.new w.drew _
  have t1 : Turn No w (w.drew.alloc (.cells R.toArray 77)) := (Turn.refl _ w).drew.alloc _
  have hp1 := hp.no t1
  have h1 : ∀ j v, (hcs Y)[j]? = some v → (w.drew.alloc (.cells R.toArray 77)).cell? ⟨g, X.length * 2 + j, none⟩ = some v := fun j v hj => by
    rw [World.cell?_of_block (t1.block g h.blk.lt (fun h => h))]
    exact h.src j v hj
  have hgl : g < w.heap.size := h.blk.lt
  have hvl : vb < w.heap.size := hp.lt
  obtain ⟨gn, hgn⟩ : ∃ gn, w.heap.size = gn := ⟨_, rfl⟩
  rw [hgn] at hrz hb hgl hvl ⊢
  generalize w.drew.alloc (.cells R.toArray 77) = w2 at hrz hb t1 hp1 h1
  -- the pair
  obtain ⟨c1, hc1⟩ : ∃ c, splice R (X.length * 2) p.cs = c := ⟨_, rfl⟩
  have hr1 : BRun2 .copy #[75, 75] 3 (.slice (some ⟨gn, X.length * 2, none⟩) (Y.length + 1) (G - X.length)) (.slice (some ⟨vb, 0, none⟩) 1 1) (goInt 1) w2 (w2.setRow gn c1.toArray) := by
    have hm : Nat.min 1 (Y.length + 1) = 1 := by simp only [Nat.min_def]; split <;> omega
    have := run_cp (w := w2) (g := gn) (o := X.length * 2) (dLen := Y.length + 1) (dCap := G - X.length) (sLen := 1) (sCap := 1) hb vb 0 p.cs (by rw [hm]; rfl) (pair_src hp1) (by simp [Hn.cs]; omega) (fun u hu => one_hcs [p] u (by simpa [hcs] using hu)) 3
    rw [hm, hc1] at this
    exact this
  have b2 : Blk (w2.setRow gn c1.toArray) gn c1 := blk_setRow hb _
  have t2 : Turn No w (w2.setRow gn c1.toArray) := t1.then (turn_setRow w2 gn _) (fun i hi e => by omega)
  have h2 : ∀ j v, (hcs Y)[j]? = some v → (w2.setRow gn c1.toArray).cell? ⟨g, X.length * 2 + j, none⟩ = some v := fun j v hj => by
    rw [cell_setRow_other w2 gn _ _ (by show g ≠ gn; omega)]
    exact h1 j v hj
  generalize w2.setRow gn c1.toArray = w3 at hr1 b2 t2 h2
  have hr2 : BRun2 .copy #[75, 75] 3 (.slice (some ⟨gn, (X.length + 1) * 2, none⟩) Y.length (G - (X.length + 1))) (.slice (some ⟨g, X.length * 2, none⟩) Y.length (cap - X.length)) (goInt Y.length) w3.drew (w3.drew.setRow gn (splice c1 ((X.length + 1) * 2) (hcs Y)).toArray) := by
    have hm : Nat.min Y.length Y.length = Y.length := Nat.min_self _
    have hl1 : c1.length = G * 2 := by rw [← hc1, length_splice _ _ _ (by simp [Hn.cs]; omega), hRl]
    have := run_cp (w := w3.drew) (g := gn) (o := (X.length + 1) * 2) (dLen := Y.length) (dCap := G - (X.length + 1)) (sLen := Y.length) (sCap := cap - X.length) b2 g (X.length * 2) (hcs Y) (by rw [hm, hcs_length]) h2 (by rw [hcs_length]; omega) (one_hcs _) 3
    rw [hm] at this
    exact this
  have hFin : Hid (Hd (w3.drew.setRow gn (splice c1 ((X.length + 1) * 2) (hcs Y)).toArray) gn G (splice c1 ((X.length + 1) * 2) (hcs Y)) (X ++ p :: Y) ∧ Turn No w (w3.drew.setRow gn (splice c1 ((X.length + 1) * 2) (hcs Y)).toArray) ∧ G ≤ maxLen) := by
    have hl1 : c1.length = G * 2 := by rw [← hc1, length_splice _ _ _ (by simp [Hn.cs]; omega), hRl]
    refine Lib.hid ⟨⟨blk_setRow (w := w3.drew) b2 _, ?_, by simp; omega, ?_⟩, t2.drew.then (turn_setRow w3.drew gn _) (fun i hi e => by omega), hGm⟩
    · rw [length_splice _ _ _ (by rw [hcs_length]; omega), hl1]
    · have := two_splices (Y := Y) p hRp (by omega)
      rw [hc1] at this
      rw [show (X ++ p :: Y).length = X.length + 1 + Y.length by simp; omega]
      exact this
  generalize w3.drew.setRow gn (splice c1 ((X.length + 1) * 2) (hcs Y)).toArray = w4 at hr2 hFin
  unfold maxLen at hGm
  have e1 : X.length + Y.length + 1 - (X.length + 1) = Y.length := by omega
  have e2 : X.length + Y.length + 1 - X.length = Y.length + 1 := by omega
  have e3 : X.length + Y.length - X.length = Y.length := by omega
  have n1 : ¬ ((X.length : Int) = (X.length : Int) + (Y.length : Int)) := by omega
  have n2 : X.length ≤ X.length + Y.length := by omega
  have n3 : ¬ (cap = X.length) := by omega
  have n4 : ¬ (G = X.length + 1) := by omega
  have n4' : ¬ (G = X.length) := by omega
  have n5 : (0 : Int) ≤ (X.length : Int) + 1 := by omega
  have n6 : ((cap : Int) < (X.length : Int) + (Y.length : Int) + 1) := by omega
  have n7 : ¬ (Y.length = 0) := by omega
  have n10 : X.length ≤ cap := by omega
  have n11 : (X.length : Int) ≤ (X.length : Int) + (Y.length : Int) := by omega
  have m1 : IntKind.i64.wrap ((X.length : Int) + 1) = (X.length : Int) + 1 := by rw [IntKind.wrap_i64]; omega
  have m2 : ((X.length : Int) + 1).toNat = X.length + 1 := by omega
  have n8 : (X.length : Int) + 1 ≤ (X.length : Int) + (Y.length : Int) + 1 := by omega
  have n9 : (X.length : Int) ≤ (X.length : Int) + (Y.length : Int) + 1 := by omega
  have m3 : (X.length : Int) + (Y.length : Int) + 1 - (X.length : Int) = (Y.length : Int) + 1 := by omega
  have HG := Lib.hid hG
  clear h hi0 hz0 hz1 hz2 hG hGn hR hRl hRp hb t1 hp1 h1 hgl hvl hgn hc1 b2 t2 h2 hp
  go_enter Tryd.func90, Tryd.ntmps90
  go_wp2_with (first | (refine wpList_brun2 (by rfl) _ _ .append _ (by rfl) _ _ _ (by rfl) (by rfl) hrz ?_) | (refine wpList_brun2 (by rfl) _ _ .copy _ (by rfl) _ _ _ (by rfl) (by rfl) hr1 ?_))
  go_region_law ((refine step_brun2 (by rfl) _ _ .copy _ (by rfl) _ _ _ (by simp [Act.eval, Act.put]) (by simp [Act.eval, Act.put]) hr2 ?_))
  all_goals go_wp2_with fail
  all_goals go_ret
  all_goals exact ⟨G, _, hFin.out.2.2, rfl, hFin.out.1, hFin.out.2.1⟩

theorem insert_any {w : World} {Z cap : Nat} {A : Option Addr} (X Y : List Hn) (h : w.ownsRow Z 77 2 (.slice A (X.length + Y.length) cap) (X.length + Y.length) (hcs (X ++ Y)))
    (hn : X.length + Y.length ≤ 50000) (vb : Nat) (p : Hn) (hp : At w vb (.cells #[.int .i64 p.slot, .int .u64 p.gen] 77 (0, 0))) (hne : (Value.slice A (X.length + Y.length) cap).ownBlock ≠ some vb) (hz : Z ≤ w.heap.size) :
    Calls Tryd.prog 90 #[.slice A (X.length + Y.length) cap, .int .i64 (X.length : Int), .slice (some ⟨vb, 0, none⟩) 1 1] w fun e w' => ∃ B cap', e = .returned (.slice (some ⟨B, 0, none⟩) (X.length + Y.length + 1) cap') ∧
      w'.ownsRow Z 77 2 (.slice (some ⟨B, 0, none⟩) (X.length + Y.length + 1) cap') (X.length + Y.length + 1) (hcs (X ++ p :: Y)) ∧ Turn (fun k => (Value.slice A (X.length + Y.length) cap).ownBlock = some k) w w' ∧ ((Value.slice A (X.length + Y.length) cap).ownBlock = some B ∨ w.heap.size ≤ B) := by
  have hlen : (X ++ p :: Y).length = X.length + Y.length + 1 := by simp; omega
  rcases h.2 with ⟨hv, h0⟩ | ⟨g, c, cur, hv, hb, hg, hnc, hc, hs, ht⟩
  · injection hv with e1 e2 e3
    subst e1 e3
    have hX : X = [] := List.eq_nil_of_length_eq_zero (by omega)
    have hY : Y = [] := List.eq_nil_of_length_eq_zero (by omega)
    subst hX hY
    refine (insert_nil w vb p hp hz).mono ?_
    rintro e w' ⟨B, cap', rfl, ho, ht, hB⟩
    rcases ho.2 with ⟨hv, _⟩ | ⟨g, c, cur, hv, hb, hg, _⟩
    · injection hv with _ e2 _; cases e2
    · injection hv with e1 _ e3
      subst e1
      injection hB with hB
      exact ⟨g, cap', rfl, ho, ht.mono (fun _ _ h => h.elim), .inr (Nat.le_of_eq hB.symm)⟩
  · injection hv with e1 e2 e3
    subst e1 e3
    have hd : Hd w g cap cur.toList (X ++ Y) := ⟨by unfold Blk At; simpa using hg, by simpa using hs, by simpa using hnc, by simpa using ht⟩
    by_cases hY : Y.length = 0
    · have hY : Y = [] := List.eq_nil_of_length_eq_zero hY
      subst hY
      refine (insert_end (n := X.length + 0) h vb p hp (by omega) hnc hz).mono ?_
      rintro e w' ⟨B, cap', rfl, ho, ht, hB⟩
      have hxs : hcs (X ++ []) ++ p.cs = hcs (X ++ [p]) := by rw [hcs_append X [p]]; simp [hcs]
      rw [hxs] at ho
      rcases ho.2 with ⟨hv, _⟩ | ⟨g2, c2, cur2, hv, hb2, hg2, _⟩
      · injection hv with _ e2 _; cases e2
      · injection hv with e1 _ e3
        subst e1
        refine ⟨g2, cap', rfl, ho, ht.mono (fun k _ e => by subst e; rfl), ?_⟩
        rcases hB with hB | hB
        · injection hB with hB
          have hB : g2 = g := hB
          subst hB
          exact .inl rfl
        · injection hB with hB; exact .inr (Nat.le_of_eq hB.symm)
    · by_cases hroom : X.length + Y.length + 1 ≤ cap
      · refine (insert_room X Y hd hc (by omega) vb p hp (fun e => hne (by rw [e]; rfl)) hroom).mono ?_
        rintro e w' ⟨rfl, ⟨cur', hd'⟩, ht⟩
        have := hd'.own hb hc
        rw [hlen] at this
        exact ⟨g, cap, rfl, this, ht.mono (fun k _ e => by subst e; rfl), .inl rfl⟩
      · refine (insert_grow X Y hd (by omega) (by omega) vb p hp (by omega)).mono ?_
        rintro e w' ⟨cap', cur', hc', rfl, hd', ht⟩
        have := hd'.own hz hc'
        rw [hlen] at this
        exact ⟨_, cap', rfl, this, ht.mono (fun _ _ h => h.elim), .inr (Nat.le_refl _)⟩

end IH
end Go.Proofs.YtfplnobnmgbgoaaDoor
namespace Go.Proofs.YtfplnobnmgbgoaaDoor
open Go.RowKit Go.Lib
set_option linter.unusedVariables false
set_option maxRecDepth 20000
set_option maxRecDepth 20000
set_option linter.unusedSimpArgs false

set_option maxHeartbeats 2000000 in
theorem clone63 (K : List ByteArray) (A : Option Addr) (ck : Nat) (w : World) (hR : Row w A (kcs K)) (hn : K.length ≤ 100000) :
    Calls Tryd.prog 96 #[.slice A K.length ck] w fun e w' => ∃ B c, e = .returned (.slice B K.length c) ∧ w'.ownsRow w.heap.size 9 1 (.slice B K.length c) K.length (kcs K) ∧ Turn No w w' := by
  have q1 : ∀ (w : World) (a : Option Addr) (n c n' c' : Nat), (binOp .eql 74 (.slice a n c) (.slice none n' c')).run Tryd.prog w = .ok (.bool a.isNone) w := fun w a n c n' c' => Lib.run_eql_slice_nil w _ _ a n c n' c' Tryd.underlying74
  cases A with
  | none =>
    obtain rfl : K = [] := by
      cases K with
      | nil => rfl
      | cons a l => obtain ⟨b, o, hA, _⟩ := hR 0 _ rfl; cases hA
    have HO := Lib.hid (World.ownsRow_nil w w.heap.size 9 1)
    clear hR hn
    go_enter Tryd.func96, Tryd.ntmps96
    go_wp2_with fail
    go_ret
    exact ⟨none, 0, rfl, HO.out, Turn.refl _ _⟩
  | some a =>
    have tn : Turn No w (w.alloc (.cells #[] 9)) := (Turn.refl _ _).alloc _
    obtain ⟨B, c, w2, q, ho, ht⟩ := app_copy (c := ck) (A := some a) Tryd.underlying74 infw9 rfl (by decide) (by decide) (new_e (W := w) (Z := w.heap.size) (e := 9) (size := 1) (Nat.le_refl _)) tn.size (by simp [kcs]) (hR.no tn) (one_kcs K) (n := K.length) hn
    have HF : Hid (w2.ownsRow w.heap.size 9 1 (.slice B K.length c) K.length (kcs K) ∧ Turn No w w2) := Lib.hid ⟨ho, tn.then ht fun i hi e => by omega⟩
    clear hR hn tn ho ht
    go_enter Tryd.func96, Tryd.ntmps96
    go_wp2_with (at_builtin; refine wpList_append_run rfl _ _ 74 rfl _ _ _ rfl rfl q ?_)
    go_ret
    exact ⟨B, c, rfl, HF.out⟩
set_option maxHeartbeats 2000000 in
theorem clone54 (K : List Hn) (A : Option Addr) (ck : Nat) (w : World) (hR : Row w A (hcs K)) (hn : K.length ≤ 100000) :
    Calls Tryd.prog 85 #[.slice A K.length ck] w fun e w' => ∃ B c, e = .returned (.slice B K.length c) ∧ w'.ownsRow w.heap.size 77 2 (.slice B K.length c) K.length (hcs K) ∧ Turn No w w' := by
  have q1 : ∀ (w : World) (a : Option Addr) (n c n' c' : Nat), (binOp .eql 75 (.slice a n c) (.slice none n' c')).run Tryd.prog w = .ok (.bool a.isNone) w := fun w a n c n' c' => Lib.run_eql_slice_nil w _ _ a n c n' c' Tryd.underlying75
  cases A with
  | none =>
    obtain rfl : K = [] := by
      cases K with
      | nil => rfl
      | cons a l => obtain ⟨b, o, hA, _⟩ := hR 0 _ rfl; cases hA
    have HO := Lib.hid (World.ownsRow_nil w w.heap.size 77 2)
    clear hR hn
    go_enter Tryd.func85, Tryd.ntmps85
    go_wp2_with fail
    go_ret
    exact ⟨none, 0, rfl, HO.out, Turn.refl _ _⟩
  | some a =>
    have tn : Turn No w (w.alloc (.cells #[] 77)) := (Turn.refl _ _).alloc _
    obtain ⟨B, c, w2, q, ho, ht⟩ := app_copy (c := ck) (A := some a) Tryd.underlying75 info27 rfl (by decide) (by decide) (new_e (W := w) (Z := w.heap.size) (e := 77) (size := 2) (Nat.le_refl _)) tn.size (hcs_length K) (hR.no tn) (one_hcs K) (n := K.length) hn
    have HF : Hid (w2.ownsRow w.heap.size 77 2 (.slice B K.length c) K.length (hcs K) ∧ Turn No w w2) := Lib.hid ⟨ho, tn.then ht fun i hi e => by omega⟩
    clear hR hn tn ho ht
    go_enter Tryd.func85, Tryd.ntmps85
    go_wp2_with (at_builtin; refine wpList_append_run rfl _ _ 75 rfl _ _ _ rfl rfl q ?_)
    go_ret
    exact ⟨B, c, rfl, HF.out⟩
/-- A text written over by itself. -/
theorem own_self {w : World} {Z g n c : Nat} {K : List ByteArray} (h : w.ownsRow Z 9 1 (.slice (some ⟨g, 0, none⟩) n c) n (kcs K)) {i : Nat} {k : ByteArray} (hk : K[i]? = some k) : (w.setCell ⟨g, i, none⟩ (.string k)).ownsRow Z 9 1 (.slice (some ⟨g, 0, none⟩) n c) n (kcs K) := by
  have h1 := own_set h i (.string k)
  have h2 : (kcs K).set i (.string k) = kcs K := by
    apply List.ext_getElem?
    intro j
    rw [List.getElem?_set]
    split
    · rename_i e
      subst e
      rw [kcs_at hk]
      have := (List.getElem?_eq_some_iff.1 hk).1
      rw [if_pos (by rw [kcs_length]; exact this)]
    · rfl
  rw [h2] at h1
  exact h1
theorem own_some {w : World} {Z n c : Nat} {t s : Nat} {B : Option Addr} {xs : List Value} (h : w.ownsRow Z t s (.slice B n c) n xs) (hn : 0 < n) : ∃ g, B = some ⟨g, 0, none⟩ ∧ Z ≤ g ∧ g < w.heap.size ∧ ∃ cur, At w g (.cells cur t (0, 0)) := by
  rcases h.2 with ⟨hv, h0⟩ | ⟨g, c', cur, hv, hb, hg, _⟩
  · omega
  · injection hv with e1 _ _
    exact ⟨g, e1, hb, At.lt hg, cur, hg⟩
theorem own_cell {w : World} {Z g n c : Nat} {K : List ByteArray} (h : w.ownsRow Z 9 1 (.slice (some ⟨g, 0, none⟩) n c) n (kcs K)) {i : Nat} {k : ByteArray} (hk : K[i]? = some k) : ∀ w2, Turn No w w2 → w2.cell? ⟨g, i, none⟩ = some (.string k) := fun w2 t => by
  obtain ⟨b, o, hB, hc⟩ := kcs_hold (row_of_own h) hk
  injection hB with hB
  injection hB with e1 e2
  subst e1 e2
  have := hc w2 t
  rwa [Nat.zero_add] at this
set_option maxHeartbeats 4000000 in
theorem texts_any (K : List ByteArray) (A : Option Addr) (ck : Nat) (w : World) (hR : Row w A (kcs K)) (hf : ∀ k ∈ K, Fit k) (hn : K.length ≤ 100000) :
    Calls Tryd.prog 84 #[.slice A K.length ck] w fun e w' => ∃ B c, e = .returned (.slice B K.length c) ∧ w'.ownsRow w.heap.size 9 1 (.slice B K.length c) K.length (kcs K) ∧ Turn No w w' := by
  have C := Lib.hid (clone63 K A ck w hR hn)
  have HF := Lib.hid hf
  clear hR hf
  go_enter Tryd.func84, Tryd.ntmps84
  go_wp2_with (go_at_call 96; (with_reducible refine C.out.mono ?_); rintro e w1 ⟨B, c, rfl, ho, ht⟩; have H1 := Lib.hid (And.intro ho ht); clear ho ht)
  go_loopw [9] (fun i wr => ∃ kk : Nat, kk ≤ K.length ∧ i = .int .i64 (kk : Int) ∧ Hid (wr.ownsRow w.heap.size 9 1 (.slice B K.length c) K.length (kcs K) ∧ Turn No w wr)) (fun i _ => K.length - (RowKit.intOf i).toNat)
  case atStart => exact ⟨0, Nat.zero_le _, rfl, H1⟩
  case round =>
    obtain ⟨kk, hm, rfl, HP⟩ := hrel
    clear H1
    by_cases hlt : kk < K.length
    · obtain ⟨k, hk⟩ : ∃ p, K[kk]? = some p := ⟨K[kk], List.getElem?_eq_getElem hlt⟩
      obtain ⟨g, rfl, hz, hgl, cur, hat⟩ := own_some HP.out.1 (by omega)
      have x0 := own_cell HP.out.1 hk wr (Turn.refl _ _)
      have CC := Lib.hid (clone_any k (HF.out k (List.mem_of_getElem? hk)) wr)
      have HK := Lib.hid (And.intro hk hz)
      have HAT := Lib.hid hat
      have hq1 : (0 : Int) ≤ (kk : Int) := by omega
      have hq2 : (kk : Int) < (K.length : Int) := by omega
      clear hk hz hgl hat
      go_wp2_with (go_at_call 36; (with_reducible refine CC.out.mono ?_); rintro e w2 ⟨rfl, ht⟩; have H2 := Lib.hid ht; clear ht x0; have x0 := own_cell HP.out.1 HK.out.1 w2 H2.out; have z0 := (HAT.out.no H2.out).thawed kk)
      have HN : Hid ((w2.setCell ⟨g, kk, none⟩ (.string k)).ownsRow w.heap.size 9 1 (.slice (some ⟨g, 0, none⟩) K.length c) K.length (kcs K) ∧ Turn No w (w2.setCell ⟨g, kk, none⟩ (.string k))) := Lib.hid ⟨own_self (own_grown HP.out.1 H2.out fun _ _ h => h) HK.out.1, (HP.out.2.trans H2.out).setCell (p := ⟨g, kk, none⟩) (Or.inr HK.out.2) _⟩
      exact ⟨⟨kk + 1, by omega, by go_num, HN⟩, by simp [RowKit.intOf]; omega⟩
    · obtain rfl : kk = K.length := by omega
      go_wp2_with fail
      go_ret
      exact ⟨B, c, rfl, HP.out.1, HP.out.2⟩
end Go.Proofs.YtfplnobnmgbgoaaDoor
