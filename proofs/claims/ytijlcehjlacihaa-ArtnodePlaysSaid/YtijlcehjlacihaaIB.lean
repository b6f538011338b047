/-
  slices.Insert and slices.Delete of one thing in a row of the program's own (Nat); append, copy, clear over such rows.
-/
import Derived.Test.YtijlcehjlacihaaCc
import Derived.Deep.RegionLaw
namespace Go.Proofs.Ytijlcehjlacihaa
open Go.RowKit Go.Lib
set_option linter.unusedVariables false
set_option maxRecDepth 20000
set_option linter.unusedSimpArgs false

def bcs (K : List Nat) : List Value := K.map fun p : Nat => Value.int .u8 (p : Int)
theorem bcs_length (K : List Nat) : (bcs K).length = K.length := by simp [bcs]
theorem bcs_at {K : List Nat} {j : Nat} {p : Nat} (h : K[j]? = some p) : (bcs K)[j]? = some (Value.int .u8 (p : Int)) := by simp [bcs, h]
theorem bcs_append (K L : List Nat) : bcs (K ++ L) = bcs K ++ bcs L := by simp [bcs]
theorem one_bcs (K : List Nat) : ∀ u ∈ bcs K, u.oneCell' = true := by
  intro u hu
  simp only [bcs, List.mem_map] at hu
  obtain ⟨p, _, rfl⟩ := hu
  rfl
theorem bcs_get {w : World} {B : Option Addr} {K : List Nat} (h : Row w B (bcs K)) {j : Nat} {p : Nat} (hj : K[j]? = some p) : ∃ b o, B = some ⟨b, o, none⟩ ∧ w.cell? ⟨b, o + j, none⟩ = some (Value.int .u8 (p : Int)) := by
  obtain ⟨b, o, hA, _, hc⟩ := h j _ (bcs_at hj)
  exact ⟨b, o, hA, hc⟩
namespace IB

abbrev pz : Value := .int .u8 0
theorem info50 : (Try.prog.info? 5).map (fun i => (i.zero, i.size, i.bytes)) = some (some pz, 1, 1) := by kernel_rfl
theorem info_size : (Try.prog.info? 5).map (·.size) = some 1 := by kernel_rfl
/-- A block of pairs' cells: all of them, as a list. -/
def Blk (w : World) (g : Nat) (cur : List Value) : Prop := At w g (.cells cur.toArray 5 (0, 0))
theorem blk_setRow {w : World} {g : Nat} {cur : List Value} (h : Blk w g cur) (cs : List Value) : Blk (w.setRow g cs.toArray) g cs := setRow_heap w g _ _ 5 _ h
/-- copy: into a block of pairs. -/
theorem run_cp {w : World} {g o dLen dCap sLen sCap : Nat} {cur : List Value} (hg : Blk w g cur) (sb so : Nat) (cs : List Value) (hn : cs.length = Nat.min sLen dLen)
    (hsrc : ∀ j v, cs[j]? = some v → w.cell? ⟨sb, so + j, none⟩ = some v) (hfit : o + cs.length ≤ cur.length) (h1 : ∀ v ∈ cs, v.oneCell' = true) (ty : TypeId) :
    BRun2 .copy #[42, 42] ty (.slice (some ⟨g, o, none⟩) dLen dCap) (.slice (some ⟨sb, so, none⟩) sLen sCap) (goInt (Nat.min sLen dLen)) w (w.setRow g (splice cur o cs).toArray) := by
  have hl := run_loadCells_list (P := Try.prog) w ⟨sb, so, none⟩ cs (fun j v h => by rw [add_lit0]; exact hsrc j v h)
  have hst := run_storeCells_at Try.prog g o 5 cs 0 cur.toArray w hg (by simpa using hfit) h1
  obtain ⟨i, hi, _, hz1, _⟩ := info_parts info50
  refine ⟨fun q => ?_⟩
  simp [builtin, Builtin.copy_, run_underlying Try.underlying42, Builtin.lenOf, Builtin.firstCells, sizeOf, typeInfo, hi, hz1, ← hn, hl, hst, splice]
/-- clear: the last n pairs from place o on. -/
theorem run_cl {w : World} {g o n cap : Nat} {cur : List Value} (hg : Blk w g cur) (hfit : o + n ≤ cur.length) (h0 : 0 < n) (ty : TypeId) :
    ∃ cs : List Value, cs.length = n ∧ BRun1 .clear #[42] ty (.slice (some ⟨g, o, none⟩) n cap) (.tuple #[]) w (w.setRow g (splice cur o cs).toArray) := by
  have hlen : (Builtin.zeroCells pz.cells n).toList.length = n := by simp [Builtin.zeroCells, Value.cells]
  have hst := run_storeCells_at Try.prog g o 5 (Builtin.zeroCells pz.cells n).toList 0 cur.toArray w hg (by rw [hlen]; simpa using hfit) (by
    intro v hv
    simp only [Builtin.zeroCells, Value.cells] at hv
    have hv := Array.mem_toList_iff.1 hv
    simp at hv
    obtain ⟨a, _, rfl⟩ := hv
    rw [Nat.mod_one]
    rfl)
  obtain ⟨i, hi, hz, hz1, _⟩ := info_parts info50
  refine ⟨(Builtin.zeroCells pz.cells n).toList, hlen, ⟨fun q => ?_⟩⟩
  obtain ⟨m, rfl⟩ : ∃ m, n = m + 1 := ⟨n - 1, by omega⟩
  simp [builtin, Builtin.clear_, run_underlying Try.underlying42, zeroValue, typeInfo, hi, hz, splice] at hst ⊢
  simp [hst]
theorem run_cl0 (w : World) (A : Option Addr) (cap : Nat) (ty : TypeId) : BRun1 .clear #[42] ty (.slice A 0 cap) (.tuple #[]) w w := by
  refine ⟨fun q => ?_⟩
  cases A <;> simp [builtin, Builtin.clear_, run_underlying Try.underlying42]

/-- A row of n pairs at the head of a block whose cells are cur. -/
structure Hd (w : World) (g : Nat) (cap : Nat) (cur : List Value) (l : List Nat) : Prop where
  blk : Blk w g cur
  size : cur.length = cap
  fits : l.length ≤ cap
  head : cur.take (l.length) = bcs l
theorem Hd.own {w : World} {g cap Z : Nat} {cur : List Value} {l : List Nat} (h : Hd w g cap cur l) (hZ : Z ≤ g) (hc : cap ≤ maxLen) : w.ownsRow Z 5 1 (.slice (some ⟨g, 0, none⟩) l.length cap) l.length (bcs l) :=
  ⟨by rw [bcs_length, Nat.mul_one], .inr ⟨g, cap, cur.toArray, rfl, hZ, h.blk, h.fits, hc, by simpa using h.size, by rw [Nat.mul_one]; exact h.head⟩⟩
theorem Hd.of_own {w : World} {Z n cap : Nat} {A : Option Addr} {l : List Nat} (h : w.ownsRow Z 5 1 (.slice A n cap) n (bcs l)) (hn : n = l.length) (h0 : 0 < cap) : ∃ g cur, A = some ⟨g, 0, none⟩ ∧ Z ≤ g ∧ cap ≤ maxLen ∧ Hd w g cap cur l := by
  subst hn
  obtain ⟨_, ⟨hv, _⟩ | ⟨g, c, cur, hv, hb, hg, hn, hc, hs, ht⟩⟩ := h
  · injection hv with _ _ e3
    omega
  · injection hv with e1 _ e3
    subst e1 e3
    exact ⟨g, cur.toList, rfl, hb, hc, ⟨by unfold Blk At; simpa using hg, by simpa using hs, hn, by rw [Nat.mul_one] at ht; exact ht⟩⟩
theorem Hd.cell {w : World} {g cap : Nat} {cur : List Value} {l : List Nat} (h : Hd w g cap cur l) {j : Nat} {u : Value} (hj : (bcs l)[j]? = some u) : w.cell? ⟨g, j, none⟩ = some u := by
  have h1 := At.cell h.blk j
  rw [h1]
  have hlt : j < l.length := by rw [← bcs_length]; exact (List.getElem?_eq_some_iff.1 hj).1
  rw [← h.head, List.getElem?_take, if_pos hlt] at hj
  simpa using hj

set_option maxHeartbeats 2000000 in
theorem delete_any {w : World} {g cap : Nat} {cur : List Value} (X Y : List Nat) (p : Nat) (h : Hd w g cap cur (X ++ p :: Y)) (hc : cap ≤ maxLen) :
    Calls Try.prog 68 #[.slice (some ⟨g, 0, none⟩) (X.length + (Y.length + 1)) cap, .int .i64 (X.length : Int), .int .i64 ((X.length : Int) + 1)] w fun e w' =>
      e = .returned (.slice (some ⟨g, 0, none⟩) (X.length + Y.length) cap) ∧ (∃ cur', Hd w' g cap cur' (X ++ Y)) ∧ Turn (fun k => k = g) w w' := by
  have hfit : X.length + (Y.length + 1) ≤ cap := by simpa using h.fits
  have hs := h.size
  have hd := h.head
  simp only [List.length_append, List.length_cons] at hd
  unfold maxLen at hc
  have hx : cur.take (X.length) = bcs X := by
    have := congrArg (List.take (X.length)) hd
    rw [List.take_take, Nat.min_eq_left (by omega), bcs_append, List.take_left' (bcs_length X)] at this
    exact this
  obtain ⟨cur1, hcur1⟩ : ∃ c, splice cur (X.length) (bcs Y) = c := ⟨_, rfl⟩
  have hY : ∀ j v, (bcs Y)[j]? = some v → w.cell? ⟨g, (X.length + 1) + j, none⟩ = some v := fun j v hj => h.cell (by
    rw [bcs_append, List.getElem?_append_right (by simp only [bcs_length] <;> omega), bcs_length]
    have : (X.length + 1) + j - X.length = 1 + j := by omega
    rw [this]
    show ([Value.int .u8 (p : Int)] ++ bcs Y)[1 + j]? = some v
    rw [List.getElem?_append_right (by simp)]
    simpa using hj)
  have hlen1 : cur1.length = cap := by rw [← hcur1, length_splice _ _ _ (by simp only [bcs_length] <;> omega), hs]
  have htk1 : cur1.take ((X.length + Y.length)) = bcs (X ++ Y) := by
    rw [← hcur1, bcs_append]
    exact splice_head (k := 0) hx (by simp only [bcs_length] <;> omega) (by simp only [bcs_length] <;> omega)
  obtain ⟨i0, hi0, _, hz1, _⟩ := info_parts info50
  have hrA : ∀ so, (so = (X.length + 1) ∨ Y.length = 0) → BRun2 .append #[42, 42] 42 (.slice (some ⟨g, 0, none⟩) X.length cap) (.slice (some ⟨g, so, none⟩) Y.length (cap - (X.length + 1))) (.slice (some ⟨g, 0, none⟩) (X.length + Y.length) cap) w.drew (w.drew.setRow g cur1.toArray) := fun so hso => ⟨fun q => by
    have hY2 : ∀ j v, (bcs Y)[j]? = some v → w.cell? ⟨g, so + j, none⟩ = some v := by
      rcases hso with rfl | h0
      · exact hY
      · rw [List.eq_nil_of_length_eq_zero h0]; intro j v hj; simp [bcs] at hj
    have := run_append_room (P := Try.prog) w.drew 42 42 5 i0 Try.underlying42 hi0 g X.length cap cur.toArray h.blk ⟨g, so, none⟩ Y.length (cap - (X.length + 1)) (bcs Y) (by rw [bcs_length, hz1, Nat.mul_one]) (fun j u hj => by rw [add_lit0]; exact hY2 j u hj) (one_bcs _) (by omega) (by rw [hz1, bcs_length]; simp; omega)
    rw [hz1] at this
    simp only [builtin, Sem.run_bind, this, Result.andThen_ok, Sem.run_pure]
    rw [← hcur1]
    unfold splice
    simp⟩
  have hB1 : Blk (w.drew.setRow g cur1.toArray) g cur1 := blk_setRow (w := w.drew) h.blk _
  have t1 : Turn (fun k => k = g) w (w.drew.setRow g cur1.toArray) := (Turn.refl _ w).drew.trans (turn_setRow _ _ _)
  generalize w.drew.setRow g cur1.toArray = w2 at hrA hB1 t1
  obtain ⟨zs, hzs, hrC⟩ := run_cl (n := X.length + (Y.length + 1) - (X.length + Y.length)) (cap := cap - (X.length + Y.length)) hB1 (o := (X.length + Y.length)) (by omega) (by omega) 0
  have hFin : Hid ((∃ cur', Hd (w2.setRow g (splice cur1 ((X.length + Y.length)) zs).toArray) g cap cur' (X ++ Y)) ∧ Turn (fun k => k = g) w (w2.setRow g (splice cur1 ((X.length + Y.length)) zs).toArray)) := by
    refine Lib.hid ⟨⟨_, blk_setRow hB1 _, ?_, by simp; omega, ?_⟩, t1.trans (turn_setRow _ _ _)⟩
    · rw [length_splice _ _ _ (by omega), hlen1]
    · rw [List.length_append]
      exact splice_keep htk1 (Nat.le_refl _) (by omega)
  generalize (w2.setRow g (splice cur1 ((X.length + Y.length)) zs).toArray) = w3 at hrC hFin
  clear h hd hx hcur1 hY hlen1 htk1 hi0 hz1 hB1 t1 hzs hs
  have n1 : X.length ≤ cap := by omega
  have n2 : X.length + 1 ≤ X.length + (Y.length + 1) := by omega
  have n3 : X.length + (Y.length + 1) - (X.length + 1) = Y.length := by omega
  have n4 : (0 : Int) ≤ (X.length : Int) + 1 := by omega
  have n5 : (1 : Int) ≤ (Y.length : Int) + 1 := by omega
  have hcase : Hid (cap = X.length + 1 ∨ ¬ cap = X.length + 1) := Lib.hid (Decidable.em _)
  go_enter Try.func68, Try.ntmps68
  go_wp2_with fail
  rcases hcase.out with hq | hq
  · have hrA1 := hrA 0 (Or.inr (by omega))
    clear hrA hcase
    have n6 : (X.length : Int) ≤ (X.length : Int) + 1 := by omega
    subst hq
    rw [show X.length + 1 - (X.length + 1) = 0 by omega] at hrA1
    go_region_law ((refine step_brun2 (by rfl) _ _ .append _ (by rfl) _ _ _ (by simp [Act.eval, Act.put]) (by simp [Act.eval, Act.put]) hrA1 ?_))
    all_goals go_wp2_with (refine wpList_brun1 (by rfl) _ .clear _ (by rfl) _ _ (by rfl) hrC ?_)
    all_goals go_ret
    all_goals exact ⟨rfl, hFin.out⟩
  · have hrA1 := hrA _ (Or.inl rfl)
    clear hrA hcase
    go_region_law ((refine step_brun2 (by rfl) _ _ .append _ (by rfl) _ _ _ (by simp [Act.eval, Act.put]) (by simp [Act.eval, Act.put]) hrA1 ?_))
    all_goals go_wp2_with (refine wpList_brun1 (by rfl) _ .clear _ (by rfl) _ _ (by rfl) hrC ?_)
    all_goals go_ret
    all_goals exact ⟨rfl, hFin.out⟩

theorem app_own {w : World} {Z : Nat} {v : Value} {n : Nat} {xs : List Value} (h : w.ownsRow Z 5 1 v n xs) (vb : Nat) (p : Nat) (hp : At w vb (.cells #[.int .u8 (p : Int)] 5 (0, 0))) (hn : n + 1 ≤ 1000000) (hz : Z ≤ w.heap.size) (ty : TypeId) :
    ∃ B cap w', BRun2 .append #[42, 42] ty v (.slice (some ⟨vb, 0, none⟩) 1 1) (.slice B (n + 1) cap) w w' ∧ w'.ownsRow Z 5 1 (.slice B (n + 1) cap) (n + 1) (xs ++ [Value.int .u8 (p : Int)]) ∧ Turn (fun i => v.ownBlock = some i) w w' ∧ ((Value.slice B (n + 1) cap).ownBlock = v.ownBlock ∨ (Value.slice B (n + 1) cap).ownBlock = some w.heap.size) := by
  obtain ⟨i0, hi, hz0, hz1, hz2⟩ := info_parts info50
  obtain ⟨v', w', hr, h2, h3, _, h5⟩ := run_append_own_at (P := Try.prog) w Z 42 ty 5 i0 pz 1 1 Try.underlying42 hi hz0 hz1 hz2 (by rfl) (by decide) v n xs h ⟨vb, 0, none⟩ 1 1 [Value.int .u8 (p : Int)] (by simp) (fun j u hj => by
      rw [add_lit0, hp.cell]
      rw [Nat.zero_add]
      rw [show (#[Value.int .u8 (p : Int)] : Array Value) = [Value.int .u8 (p : Int)].toArray from rfl]
      simpa using hj) (fun u hu => one_bcs [p] u (by simpa [bcs] using hu)) (by unfold maxLen; omega) (by omega) hz
  obtain ⟨B, cap, rfl⟩ := own_form h2
  exact ⟨B, cap, w', ⟨fun q => by simp only [builtin, Sem.run_bind, hr, Result.andThen_ok, Sem.run_pure]⟩, h2, (Turn.refl _ w).grown h3 (fun k hk => Or.inl hk), h5⟩

set_option maxHeartbeats 1000000 in
theorem insert_end {w : World} {Z g cap n : Nat} {xs : List Value} (h : w.ownsRow Z 5 1 (.slice (some ⟨g, 0, none⟩) n cap) n xs) (vb : Nat) (p : Nat) (hp : At w vb (.cells #[.int .u8 (p : Int)] 5 (0, 0))) (hn : n ≤ 100000) (hcap : n ≤ cap) (hz : Z ≤ w.heap.size) :
    Calls Try.prog 70 #[.slice (some ⟨g, 0, none⟩) n cap, .int .i64 (n : Int), .slice (some ⟨vb, 0, none⟩) 1 1] w fun e w' => ∃ B cap', e = .returned (.slice B (n + 1) cap') ∧
      w'.ownsRow Z 5 1 (.slice B (n + 1) cap') (n + 1) (xs ++ [Value.int .u8 (p : Int)]) ∧ Turn (fun i => i = g) w w' ∧ ((Value.slice B (n + 1) cap').ownBlock = some g ∨ (Value.slice B (n + 1) cap').ownBlock = some w.heap.size) := by
  obtain ⟨B, cap', w2, hr, ho, ht, hB⟩ := app_own h vb p hp (by omega) hz 42
  have hF := Lib.hid (and3 ho (ht.mono (Y := fun i => i = g) fun k _ hk => by simpa [Value.ownBlock, eq_comm] using hk) hB)
  clear h hp ho ht hz hB
  go_enter Try.func70, Try.ntmps70
  go_wp2_with (refine wpList_brun2 (by rfl) _ _ .append _ (by rfl) _ _ _ (by rfl) (by rfl) hr ?_)
  all_goals go_ret
  all_goals exact ⟨B, cap', rfl, hF.out⟩
set_option maxHeartbeats 1000000 in
theorem insert_nil (w : World) (vb : Nat) (p : Nat) (hp : At w vb (.cells #[.int .u8 (p : Int)] 5 (0, 0))) {Z : Nat} (hz : Z ≤ w.heap.size) :
    Calls Try.prog 70 #[.slice none 0 0, .int .i64 0, .slice (some ⟨vb, 0, none⟩) 1 1] w fun e w' => ∃ B cap', e = .returned (.slice B 1 cap') ∧
      w'.ownsRow Z 5 1 (.slice B 1 cap') 1 [Value.int .u8 (p : Int)] ∧ Turn No w w' ∧ (Value.slice B 1 cap').ownBlock = some w.heap.size := by
  obtain ⟨B, cap', w2, hr, ho, ht, hB⟩ := app_own (World.ownsRow_nil w Z 5 1) vb p hp (by omega) hz 42
  have hB2 : (Value.slice B (0 + 1) cap').ownBlock = some w.heap.size := by
    rcases hB with h1 | h1
    · exfalso
      rcases ho.2 with ⟨hv, _⟩ | ⟨g, c, cur, hv, _⟩
      · injection hv with _ e2 _; cases e2
      · rw [hv] at h1; cases h1
    · exact h1
  have hF := Lib.hid (and3 ho (ht.mono (Y := No) fun k _ hk => by simp [Value.ownBlock] at hk) hB2)
  clear hp ho ht hz hB hB2
  go_enter Try.func70, Try.ntmps70
  go_wp2_with (refine wpList_brun2 (by rfl) _ _ .append _ (by rfl) _ _ _ (by rfl) (by rfl) hr ?_)
  all_goals go_ret
  all_goals exact ⟨B, cap', rfl, hF.out⟩

theorem bcs_mid (X Y : List Nat) (p : Nat) : bcs (X ++ p :: Y) = bcs X ++ [Value.int .u8 (p : Int)] ++ bcs Y := by
  rw [bcs_append, List.append_assoc]
  rfl
theorem Hd.pre {w : World} {g cap : Nat} {cur : List Value} {X Y : List Nat} (h : Hd w g cap cur (X ++ Y)) : cur.take (X.length) = bcs X := by
  have := congrArg (List.take (X.length)) h.head
  rw [List.length_append, List.take_take, Nat.min_eq_left (by omega), bcs_append, List.take_left' (bcs_length X)] at this
  exact this
theorem Hd.src {w : World} {g cap : Nat} {cur : List Value} {X Y : List Nat} (h : Hd w g cap cur (X ++ Y)) : ∀ j v, (bcs Y)[j]? = some v → w.cell? ⟨g, X.length + j, none⟩ = some v := fun j v hj => h.cell (by
  rw [bcs_append, List.getElem?_append_right (by simp only [bcs_length] <;> omega), bcs_length, Nat.add_sub_cancel_left]
  exact hj)
/-- Two splices: a pair, and behind it the rest. -/
theorem two_splices {R : List Value} {X Y : List Nat} (p : Nat) (hR : R.take (X.length) = bcs X) (hl : (X.length + 1 + Y.length) ≤ R.length) :
    (splice (splice R (X.length) [Value.int .u8 (p : Int)]) ((X.length + 1)) (bcs Y)).take ((X.length + 1 + Y.length)) = bcs (X ++ p :: Y) := by
  have h1 : (splice R (X.length) [Value.int .u8 (p : Int)]).take ((X.length + 1)) = bcs X ++ [Value.int .u8 (p : Int)] := splice_head (k := 0) hR (by simp <;> omega) (by simp <;> omega)
  have hl2 : (splice R (X.length) [Value.int .u8 (p : Int)]).length = R.length := length_splice _ _ _ (by simp <;> omega)
  rw [bcs_mid]
  exact splice_head (k := 0) h1 (by simp only [bcs_length] <;> omega) (by simp only [bcs_length, hl2] <;> omega)
/-- The other way round: the rest first, moved up; then the pair. -/
theorem splices_two {R : List Value} {X Y : List Nat} (p : Nat) (hR : R.take (X.length) = bcs X) (hl : (X.length + 1 + Y.length) ≤ R.length) :
    (splice (splice R ((X.length + 1)) (bcs Y)) (X.length) [Value.int .u8 (p : Int)]).take ((X.length + 1 + Y.length)) = bcs (X ++ p :: Y) := by
  have e1 : (splice R ((X.length + 1)) (bcs Y)).take (X.length) = bcs X := splice_keep hR (by omega) (by omega)
  have e2 : (splice R ((X.length + 1)) (bcs Y)).drop (X.length + [Value.int .u8 (p : Int)].length) = bcs Y ++ R.drop ((X.length + 1) + (bcs Y).length) := by
    rw [show X.length + [Value.int .u8 (p : Int)].length = (X.length + 1) by simp <;> omega]
    unfold splice
    rw [List.drop_left' (by rw [List.length_take]; omega)]
  rw [splice.eq_1 (splice R ((X.length + 1)) (bcs Y)), e1, e2, bcs_mid, ← List.append_assoc, ← List.append_assoc, List.take_left']
  simp [bcs_length]
  omega
theorem Hd.shape {w : World} {g cap : Nat} {cur : List Value} {l : List Nat} (h : Hd w g cap cur l) : w.shape? g = some (5, cap) := by
  have := h.blk
  unfold Blk At at this
  simp [World.shape?, this, h.size]
theorem pair_src {w : World} {vb : Nat} {p : Nat} (hp : At w vb (.cells #[.int .u8 (p : Int)] 5 (0, 0))) : ∀ j v, [Value.int .u8 (p : Int)][j]? = some v → w.cell? ⟨vb, 0 + j, none⟩ = some v := fun j v hj => by
  rw [hp.cell, Nat.zero_add, show (#[Value.int .u8 (p : Int)] : Array Value) = [Value.int .u8 (p : Int)].toArray from rfl]
  simpa using hj

set_option maxHeartbeats 400000 in
theorem insert_room {w : World} {g cap : Nat} {cur : List Value} (X Y : List Nat) (h : Hd w g cap cur (X ++ Y)) (hc : cap ≤ maxLen) (hY : 0 < Y.length) (vb : Nat) (p : Nat) (hp : At w vb (.cells #[.int .u8 (p : Int)] 5 (0, 0))) (hne : vb ≠ g) (hroom : X.length + Y.length + 1 ≤ cap) :
    Calls Try.prog 70 #[.slice (some ⟨g, 0, none⟩) (X.length + Y.length) cap, .int .i64 (X.length : Int), .slice (some ⟨vb, 0, none⟩) 1 1] w fun e w' =>
      e = .returned (.slice (some ⟨g, 0, none⟩) (X.length + Y.length + 1) cap) ∧ (∃ cur', Hd w' g cap cur' (X ++ p :: Y)) ∧ Turn (fun k => k = g) w w' := by
  unfold maxLen at hc
  have hs := h.size
  have hov : ∀ lb cb, (callFunc 74 #[.slice (some ⟨vb, 0, none⟩) 1 1, .slice (some ⟨g, (X.length + 1), none⟩) lb cb]).run Try.prog w = .ok (.value (.bool false)) w := fun lb cb => by
    rw [run_callFunc_extern Try.func74 (by kernel_rfl) (by kernel_rfl) (by kernel_rfl) (e := Extern.SlicesOverlaps.overlaps #[42, 42] #[4]) (by kernel_rfl),
      Lib.run_overlaps_apart w 42 4 5 Try.underlying42 1 Try.sizeOf5 ⟨vb, 0, none⟩ ⟨g, (X.length + 1), none⟩ 1 1 lb cb hne 5 5 1 (cap) (At.shape hp) h.shape (by omega) (hp.thawed 0) (hp.thawed 1)]
    rfl
  obtain ⟨c1, hc1⟩ : ∃ c, splice cur ((X.length + 1)) (bcs Y) = c := ⟨_, rfl⟩
  have l1 : c1.length = cap := by rw [← hc1, length_splice _ _ _ (by simp only [bcs_length] <;> omega), hs]
  have hr1 : BRun2 .copy #[42, 42] 3 (.slice (some ⟨g, (X.length + 1), none⟩) (Y.length) (cap - (X.length + 1))) (.slice (some ⟨g, X.length, none⟩) (Y.length + 1) (cap - X.length)) (goInt Y.length) w.drew (w.drew.setRow g c1.toArray) := by
    have := run_cp (w := w.drew) (g := g) (o := (X.length + 1)) (dLen := Y.length) (dCap := cap - (X.length + 1)) (sLen := Y.length + 1) (sCap := cap - X.length) h.blk g (X.length) (bcs Y) (by rw [bcs_length, show Nat.min (Y.length + 1) (Y.length) = Y.length by simp only [Nat.min_def]; split <;> omega]) h.src (by simp only [bcs_length] <;> omega) (one_bcs _) 3
    rw [hc1, show Nat.min (Y.length + 1) (Y.length) = Y.length by simp only [Nat.min_def]; split <;> omega] at this
    exact this
  have b1 : Blk (w.drew.setRow g c1.toArray) g c1 := blk_setRow (w := w.drew) h.blk _
  have t1 : Turn (fun k => k = g) w (w.drew.setRow g c1.toArray) := (Turn.refl _ w).drew.trans (turn_setRow _ _ _)
  have hp1 := hp.turn t1 (by omega)
  generalize w.drew.setRow g c1.toArray = w2 at hr1 b1 t1 hp1
  have hr2 : BRun2 .copy #[42, 42] 3 (.slice (some ⟨g, X.length, none⟩) (Y.length + 1) (cap - X.length)) (.slice (some ⟨vb, 0, none⟩) 1 1) (goInt 1) w2 (w2.setRow g (splice c1 (X.length) [Value.int .u8 (p : Int)]).toArray) := by
    have hm : Nat.min 1 (Y.length + 1) = 1 := by simp only [Nat.min_def]; split <;> omega
    have := run_cp (w := w2) (g := g) (o := X.length) (dLen := Y.length + 1) (dCap := cap - X.length) (sLen := 1) (sCap := 1) b1 vb 0 [Value.int .u8 (p : Int)] (by rw [hm]; rfl) (pair_src hp1) (by simp <;> omega) (fun u hu => one_bcs [p] u (by simpa [bcs] using hu)) 3
    rw [hm] at this
    exact this
  have hFin : Hid ((∃ cur', Hd (w2.setRow g (splice c1 (X.length) [Value.int .u8 (p : Int)]).toArray) g cap cur' (X ++ p :: Y)) ∧ Turn (fun k => k = g) w (w2.setRow g (splice c1 (X.length) [Value.int .u8 (p : Int)]).toArray)) := by
    refine Lib.hid ⟨⟨_, blk_setRow b1 _, ?_, by simp; omega, ?_⟩, t1.trans (turn_setRow _ _ _)⟩
    · rw [length_splice _ _ _ (by simp <;> omega), l1]
    · have := splices_two (Y := Y) p h.pre (by omega)
      rw [hc1] at this
      rw [show (X ++ p :: Y).length = X.length + 1 + Y.length by simp <;> omega]
      exact this
  generalize w2.setRow g (splice c1 (X.length) [Value.int .u8 (p : Int)]).toArray = w3 at hr2 hFin
  have e1 : X.length + Y.length + 1 - (X.length + 1) = Y.length := by omega
  have e2 : X.length + Y.length + 1 - X.length = Y.length + 1 := by omega
  have n1 : ¬ ((X.length : Int) = (X.length : Int) + (Y.length : Int)) := by omega
  have n2 : X.length ≤ X.length + Y.length := by omega
  have n3 : ¬ (cap = X.length) := by omega
  have n4 : ¬ (cap = X.length + 1) := by omega
  have n5 : (0 : Int) ≤ (X.length : Int) + 1 := by omega
  have n6 : ¬ ((cap : Int) < (X.length : Int) + (Y.length : Int) + 1) := by omega
  have n7 : ¬ (Y.length = 0) := by omega
  have m1 : IntKind.i64.wrap ((X.length : Int) + 1) = (X.length : Int) + 1 := by rw [IntKind.wrap_i64]; omega
  have m2 : ((X.length : Int) + 1).toNat = X.length + 1 := by omega
  have n8 : (X.length : Int) + 1 ≤ (X.length : Int) + (Y.length : Int) + 1 := by omega
  have n9 : (X.length : Int) ≤ (X.length : Int) + (Y.length : Int) + 1 := by omega
  clear h hs hc1 l1 b1 t1 hp1 hp hne
  go_enter Try.func70, Try.ntmps70
  go_wp2_with (simp only [hov])
  go_region_law ((refine step_brun2 (by rfl) _ _ .copy _ (by rfl) _ _ _ (by simp [Act.eval, Act.put]) (by simp [Act.eval, Act.put]) hr1 ?_))
  all_goals go_wp2_with (refine wpList_brun2 (by rfl) _ _ .copy _ (by rfl) _ _ _ (by rfl) (by rfl) hr2 ?_)
  all_goals go_ret
  all_goals exact ⟨rfl, hFin.out⟩

set_option maxHeartbeats 1000000 in
theorem insert_grow {w : World} {g cap : Nat} {cur : List Value} (X Y : List Nat) (h : Hd w g cap cur (X ++ Y)) (hn : X.length + Y.length ≤ 100000) (hY : 0 < Y.length) (vb : Nat) (p : Nat) (hp : At w vb (.cells #[.int .u8 (p : Int)] 5 (0, 0))) (hroom : cap < X.length + Y.length + 1) :
    Calls Try.prog 70 #[.slice (some ⟨g, 0, none⟩) (X.length + Y.length) cap, .int .i64 (X.length : Int), .slice (some ⟨vb, 0, none⟩) 1 1] w fun e w' => ∃ cap' cur', cap' ≤ maxLen ∧
      e = .returned (.slice (some ⟨w.heap.size, 0, none⟩) (X.length + Y.length + 1) cap') ∧ Hd w' w.heap.size cap' cur' (X ++ p :: Y) ∧ Turn No w w' := by
  have hfit : X.length + Y.length ≤ cap := by simpa using h.fits
  obtain ⟨i0, hi0, hz0, hz1, hz2⟩ := info_parts info50
  obtain ⟨G, hG⟩ : ∃ G, grownCap w (X.length + Y.length + 1) cap 5 = G := ⟨_, rfl⟩
  have hGn : X.length + Y.length + 1 ≤ G := by rw [← hG]; exact grownCap_ge w _ _ _
  have hGm : G ≤ maxLen := by rw [← hG]; exact grownCap_le_maxLen w _ _ _ (by unfold maxLen; omega)
  obtain ⟨R, hR⟩ : ∃ R : List Value, ((bcs X).toArray ++ Builtin.zeroCells pz.cells (Y.length + 1) ++ Builtin.zeroCells pz.cells (G - (X.length + Y.length + 1))).toList = R := ⟨_, rfl⟩
  have hRl : R.length = G := by
    rw [← hR]
    simp [bcs_length, Builtin.zeroCells, Value.cells]
    omega
  have hRp : R.take (X.length) = bcs X := by
    rw [← hR]
    simp only [Array.toList_append, List.append_assoc]
    rw [List.take_left' (bcs_length X)]
  have hrz : BRun2 .append #[42, 3] 42 (.slice (some ⟨g, 0, none⟩) X.length cap) (.int .i64 ((Y.length : Int) + 1)) (.slice (some ⟨w.heap.size, 0, none⟩) (X.length + Y.length + 1) G) w (w.drew.alloc (.cells R.toArray 5)) := ⟨fun q => by
    have hold : (Builtin.firstCells i0.size X.length (.slice (some ⟨g, 0, none⟩) X.length cap)).run Try.prog w.drew = .ok (bcs X).toArray w.drew := by
      rw [hz1]
      exact run_firstCells_some w.drew 1 X.length ⟨g, 0, none⟩ X.length cap (bcs X) (by rw [bcs_length, Nat.mul_one]) (fun j v hj => by
        rw [add_lit0, Nat.zero_add]
        exact h.cell (by rw [bcs_append, List.getElem?_append_left (List.getElem?_eq_some_iff.1 hj).1]; exact hj))
    have := Lib.run_append_grow_zeros (P := Try.prog) w 42 3 42 5 i0 pz .i64 .i64 Try.underlying42 Try.underlying3 hi0 hz0 (some ⟨g, 0, none⟩) X.length cap (bcs X) hold (Y.length + 1) (by omega) (by rw [hz1]; decide) (by omega) (by omega) (by rw [hz2]; omega) (by rw [hz2]; exact growslice_fits (by omega) (by omega))
    rw [show X.length + (Y.length + 1) = X.length + Y.length + 1 by omega, hG] at this
    rw [show ((Y.length : Int) + 1) = ((Y.length + 1 : Nat) : Int) by omega]
    simp only [builtin, Sem.run_bind, this, Result.andThen_ok, Sem.run_pure]
    rw [← hR]⟩
  have hb : Blk (w.drew.alloc (.cells R.toArray 5)) w.heap.size R := At.new w.drew _
  have t1 : Turn No w (w.drew.alloc (.cells R.toArray 5)) := (Turn.refl _ w).drew.alloc _
  have hp1 := hp.no t1
  have h1 : ∀ j v, (bcs Y)[j]? = some v → (w.drew.alloc (.cells R.toArray 5)).cell? ⟨g, X.length + j, none⟩ = some v := fun j v hj => by
    rw [World.cell?_of_block (t1.block g h.blk.lt (fun h => h))]
    exact h.src j v hj
  have hgl : g < w.heap.size := h.blk.lt
  have hvl : vb < w.heap.size := hp.lt
  obtain ⟨gn, hgn⟩ : ∃ gn, w.heap.size = gn := ⟨_, rfl⟩
  rw [hgn] at hrz hb hgl hvl ⊢
  generalize w.drew.alloc (.cells R.toArray 5) = w2 at hrz hb t1 hp1 h1
  -- the pair
  obtain ⟨c1, hc1⟩ : ∃ c, splice R (X.length) [Value.int .u8 (p : Int)] = c := ⟨_, rfl⟩
  have hr1 : BRun2 .copy #[42, 42] 3 (.slice (some ⟨gn, X.length, none⟩) (Y.length + 1) (G - X.length)) (.slice (some ⟨vb, 0, none⟩) 1 1) (goInt 1) w2 (w2.setRow gn c1.toArray) := by
    have hm : Nat.min 1 (Y.length + 1) = 1 := by simp only [Nat.min_def]; split <;> omega
    have := run_cp (w := w2) (g := gn) (o := X.length) (dLen := Y.length + 1) (dCap := G - X.length) (sLen := 1) (sCap := 1) hb vb 0 [Value.int .u8 (p : Int)] (by rw [hm]; rfl) (pair_src hp1) (by simp <;> omega) (fun u hu => one_bcs [p] u (by simpa [bcs] using hu)) 3
    rw [hm, hc1] at this
    exact this
  have b2 : Blk (w2.setRow gn c1.toArray) gn c1 := blk_setRow hb _
  have t2 : Turn No w (w2.setRow gn c1.toArray) := t1.then (turn_setRow w2 gn _) (fun i hi e => by omega)
  have h2 : ∀ j v, (bcs Y)[j]? = some v → (w2.setRow gn c1.toArray).cell? ⟨g, X.length + j, none⟩ = some v := fun j v hj => by
    rw [cell_setRow_other w2 gn _ _ (by show g ≠ gn; omega)]
    exact h1 j v hj
  generalize w2.setRow gn c1.toArray = w3 at hr1 b2 t2 h2
  have hr2 : BRun2 .copy #[42, 42] 3 (.slice (some ⟨gn, (X.length + 1), none⟩) Y.length (G - (X.length + 1))) (.slice (some ⟨g, X.length, none⟩) Y.length (cap - X.length)) (goInt Y.length) w3.drew (w3.drew.setRow gn (splice c1 ((X.length + 1)) (bcs Y)).toArray) := by
    have hm : Nat.min Y.length Y.length = Y.length := Nat.min_self _
    have hl1 : c1.length = G := by rw [← hc1, length_splice _ _ _ (by simp <;> omega), hRl]
    have := run_cp (w := w3.drew) (g := gn) (o := (X.length + 1)) (dLen := Y.length) (dCap := G - (X.length + 1)) (sLen := Y.length) (sCap := cap - X.length) b2 g (X.length) (bcs Y) (by rw [hm, bcs_length]) h2 (by simp only [bcs_length] <;> omega) (one_bcs _) 3
    rw [hm] at this
    exact this
  have hFin : Hid (Hd (w3.drew.setRow gn (splice c1 ((X.length + 1)) (bcs Y)).toArray) gn G (splice c1 ((X.length + 1)) (bcs Y)) (X ++ p :: Y) ∧ Turn No w (w3.drew.setRow gn (splice c1 ((X.length + 1)) (bcs Y)).toArray) ∧ G ≤ maxLen) := by
    have hl1 : c1.length = G := by rw [← hc1, length_splice _ _ _ (by simp <;> omega), hRl]
    refine Lib.hid ⟨⟨blk_setRow (w := w3.drew) b2 _, ?_, by simp; omega, ?_⟩, t2.drew.then (turn_setRow w3.drew gn _) (fun i hi e => by omega), hGm⟩
    · rw [length_splice _ _ _ (by simp only [bcs_length] <;> omega), hl1]
    · have := two_splices (Y := Y) p hRp (by omega)
      rw [hc1] at this
      rw [show (X ++ p :: Y).length = X.length + 1 + Y.length by simp <;> omega]
      exact this
  generalize w3.drew.setRow gn (splice c1 ((X.length + 1)) (bcs Y)).toArray = w4 at hr2 hFin
  unfold maxLen at hGm
  have e1 : X.length + Y.length + 1 - (X.length + 1) = Y.length := by omega
  have e2 : X.length + Y.length + 1 - X.length = Y.length + 1 := by omega
  have e3 : X.length + Y.length - X.length = Y.length := by omega
  have n1 : ¬ ((X.length : Int) = (X.length : Int) + (Y.length : Int)) := by omega
  have n2 : X.length ≤ X.length + Y.length := by omega
  have n3 : ¬ (cap = X.length) := by omega
  have n4 : ¬ (G = X.length + 1) := by omega
  have n4' : ¬ (G = X.length) := by omega
  have n5 : (0 : Int) ≤ (X.length : Int) + 1 := by omega
  have n6 : ((cap : Int) < (X.length : Int) + (Y.length : Int) + 1) := by omega
  have n7 : ¬ (Y.length = 0) := by omega
  have n10 : X.length ≤ cap := by omega
  have n11 : (X.length : Int) ≤ (X.length : Int) + (Y.length : Int) := by omega
  have m1 : IntKind.i64.wrap ((X.length : Int) + 1) = (X.length : Int) + 1 := by rw [IntKind.wrap_i64]; omega
  have m2 : ((X.length : Int) + 1).toNat = X.length + 1 := by omega
  have n8 : (X.length : Int) + 1 ≤ (X.length : Int) + (Y.length : Int) + 1 := by omega
  have n9 : (X.length : Int) ≤ (X.length : Int) + (Y.length : Int) + 1 := by omega
  have m3 : (X.length : Int) + (Y.length : Int) + 1 - (X.length : Int) = (Y.length : Int) + 1 := by omega
  have HG := Lib.hid hG
  clear h hi0 hz0 hz1 hz2 hG hGn hR hRl hRp hb t1 hp1 h1 hgl hvl hgn hc1 b2 t2 h2 hp
  go_enter Try.func70, Try.ntmps70
  go_wp2_with (first | (refine wpList_brun2 (by rfl) _ _ .append _ (by rfl) _ _ _ (by rfl) (by rfl) hrz ?_) | (refine wpList_brun2 (by rfl) _ _ .copy _ (by rfl) _ _ _ (by rfl) (by rfl) hr1 ?_))
  go_region_law ((refine step_brun2 (by rfl) _ _ .copy _ (by rfl) _ _ _ (by simp [Act.eval, Act.put]) (by simp [Act.eval, Act.put]) hr2 ?_))
  all_goals go_wp2_with fail
  all_goals go_ret
  all_goals exact ⟨G, _, hFin.out.2.2, rfl, hFin.out.1, hFin.out.2.1⟩

theorem insert_any {w : World} {Z cap : Nat} {A : Option Addr} (X Y : List Nat) (h : w.ownsRow Z 5 1 (.slice A (X.length + Y.length) cap) (X.length + Y.length) (bcs (X ++ Y)))
    (hn : X.length + Y.length ≤ 50000) (vb : Nat) (p : Nat) (hp : At w vb (.cells #[.int .u8 (p : Int)] 5 (0, 0))) (hne : (Value.slice A (X.length + Y.length) cap).ownBlock ≠ some vb) (hz : Z ≤ w.heap.size) :
    Calls Try.prog 70 #[.slice A (X.length + Y.length) cap, .int .i64 (X.length : Int), .slice (some ⟨vb, 0, none⟩) 1 1] w fun e w' => ∃ B cap', e = .returned (.slice (some ⟨B, 0, none⟩) (X.length + Y.length + 1) cap') ∧
      w'.ownsRow Z 5 1 (.slice (some ⟨B, 0, none⟩) (X.length + Y.length + 1) cap') (X.length + Y.length + 1) (bcs (X ++ p :: Y)) ∧ Turn (fun k => (Value.slice A (X.length + Y.length) cap).ownBlock = some k) w w' ∧ ((Value.slice A (X.length + Y.length) cap).ownBlock = some B ∨ w.heap.size ≤ B) := by
  have hlen : (X ++ p :: Y).length = X.length + Y.length + 1 := by simp; omega
  rcases h.2 with ⟨hv, h0⟩ | ⟨g, c, cur, hv, hb, hg, hnc, hc, hs, ht⟩
  · injection hv with e1 e2 e3
    subst e1 e3
    have hX : X = [] := List.eq_nil_of_length_eq_zero (by omega)
    have hY : Y = [] := List.eq_nil_of_length_eq_zero (by omega)
    subst hX hY
    refine (insert_nil w vb p hp hz).mono ?_
    rintro e w' ⟨B, cap', rfl, ho, ht, hB⟩
    rcases ho.2 with ⟨hv, _⟩ | ⟨g, c, cur, hv, hb, hg, _⟩
    · injection hv with _ e2 _; cases e2
    · injection hv with e1 _ e3
      subst e1
      injection hB with hB
      exact ⟨g, cap', rfl, ho, ht.mono (fun _ _ h => h.elim), .inr (Nat.le_of_eq hB.symm)⟩
  · injection hv with e1 e2 e3
    subst e1 e3
    have hd : Hd w g cap cur.toList (X ++ Y) := ⟨by unfold Blk At; simpa using hg, by simpa using hs, by simpa using hnc, by rw [Nat.mul_one] at ht; simpa using ht⟩
    by_cases hY : Y.length = 0
    · have hY : Y = [] := List.eq_nil_of_length_eq_zero hY
      subst hY
      refine (insert_end (n := X.length + 0) h vb p hp (by omega) hnc hz).mono ?_
      rintro e w' ⟨B, cap', rfl, ho, ht, hB⟩
      have hxs : bcs (X ++ []) ++ [Value.int .u8 (p : Int)] = bcs (X ++ [p]) := by rw [bcs_append X [p]]; simp [bcs]
      rw [hxs] at ho
      rcases ho.2 with ⟨hv, _⟩ | ⟨g2, c2, cur2, hv, hb2, hg2, _⟩
      · injection hv with _ e2 _; cases e2
      · injection hv with e1 _ e3
        subst e1
        refine ⟨g2, cap', rfl, ho, ht.mono (fun k _ e => by subst e; rfl), ?_⟩
        rcases hB with hB | hB
        · injection hB with hB
          have hB : g2 = g := hB
          subst hB
          exact .inl rfl
        · injection hB with hB; exact .inr (Nat.le_of_eq hB.symm)
    · by_cases hroom : X.length + Y.length + 1 ≤ cap
      · refine (insert_room X Y hd hc (by omega) vb p hp (fun e => hne (by rw [e]; rfl)) hroom).mono ?_
        rintro e w' ⟨rfl, ⟨cur', hd'⟩, ht⟩
        have := hd'.own hb hc
        rw [hlen] at this
        exact ⟨g, cap, rfl, this, ht.mono (fun k _ e => by subst e; rfl), .inl rfl⟩
      · refine (insert_grow X Y hd (by omega) (by omega) vb p hp (by omega)).mono ?_
        rintro e w' ⟨cap', cur', hc', rfl, hd', ht⟩
        have := hd'.own hz hc'
        rw [hlen] at this
        exact ⟨_, cap', rfl, this, ht.mono (fun _ _ h => h.elim), .inr (Nat.le_refl _)⟩

end IB
end Go.Proofs.Ytijlcehjlacihaa
